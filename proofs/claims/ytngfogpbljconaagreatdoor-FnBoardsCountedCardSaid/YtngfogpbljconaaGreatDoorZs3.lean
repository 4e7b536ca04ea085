/- The abstract machine, contracts: part 3 of what this claim needs. -/
import Derived.Test.YtngfogpbljconaaGreatDoorZs2
set_option linter.unusedSectionVars false
namespace Go.Am
variable [Go.Am.CodeBlk]
variable {P : Program} {N : Nat}
def enterH (asx : List AV) (hin : Hp) : AS := ⟨fun t => (asx[t]?).getD .any,hin⟩
theorem enterH_sim {w : World} {phi : Nat → Option Nat} {asx : List AV} {hin : Hp} {vs : Array Value} {n : Nat} (hg : GoodW w) (hgb : ∀ r b,(hin r).isSome = true → phi r = some b → b ∉ goodB) (hpb : ∀ r,(hin r).isSome = true → pbase ≤ r) (hinj : Inj hin phi) (hregs : Regs (ctxE w phi hin) hin)
    (hs : SimL asx (ctxE w phi hin) vs.toList) (hl : vs.size = asx.length) :
    Sim w (fun r => if (hin r).isSome then phi r else none) (min n pbase) (enterH asx hin) (vs ++ Array.replicate (n - vs.size) undef) w phi (ctxE w phi hin).ro where
  os := rfl
  tape := rfl
  output := rfl
  size := Nat.le_refl _
  kept := fun _ _ _ => rfl
  shp := fun b cur e f hb => ⟨cur,hb,rfl⟩
  npb := Nat.min_le_right _ _
  gd := ⟨hg,fun r b h => by split at h; exact hgb r b ‹_› h; cases h⟩
  rob := fun _ hb => hb.1
  inj := fun r r' b h1 h2 h3 h4 => hinj r r' b h1 h2 h3 h4
  liv := fun r c hc => by
    have hr : (hin r).isSome = true := by have h1 : hin r = some c := hc
                                          rw [h1]; rfl
    rcases hregs r c hc with ⟨h1,h2⟩|⟨b,cur,e,h1,h2,h3⟩|⟨b,o,h0,h1,h2,h3⟩
    · refine .inl ⟨h1,h2,fun _ => ?_⟩
      rw [if_pos hr]; exact h1
    · refine .inr (.inl ⟨b,cur,e,h1,h2,fun hb => hb.2 r hr h1,.inr ⟨hpb r hr,?_⟩,h3⟩)
      rw [if_pos hr]; exact h1
    · refine .inr (.inr ⟨b,o,h0,h1,h2,h3,fun hb => hb.2 r hr h1,.inr ⟨hpb r hr,?_⟩⟩)
      rw [if_pos hr]; exact h1
  tms := fun t => by
    simp only [enterH]
    cases hx : asx[t]? with
    | none => simp [SimV]
    | some x =>
      obtain ⟨y,hy,hsy⟩ := hs.get hx
      have hlt : t < vs.size := by
        have := (List.getElem?_eq_some_iff.1 hy).1
        simpa using this
      have hy' : vs[t] = y := by
        have := (List.getElem?_eq_some_iff.1 hy).2
        simpa using this
      have : (vs ++ Array.replicate (n - vs.size) undef).getD t undef = y := by
        simp [Array.getD_eq_getD_getElem?,Array.getElem?_append,hlt,hy']
      rw [this]
      exact hsy
  slots := by simp; omega
def DoneH (ts : List Nat) (res : AV) (hin hout : Hp) : Exit → AS → Prop
  | .normal,s|.ret,s => ∃ g : Nat → Nat,resAV s ts = renV g res ∧ (∀ r c,hout r = some c → ∃ c0,s.hp (g r) = some c0 ∧ (c0 = renR g c ∨ (c.2 = [] ∧ c0.2 = []))) ∧ (∀ r,(hin r).isSome = true → g r = r ∧ (hout r).isSome = true) ∧
      (∀ r,(hout r).isSome = true → hin r = none → g r < pbase) ∧ (∀ r r',(hout r).isSome = true → (hout r').isSome = true → g r = g r' → r = r')
  | _,_ => False
structure Static (hin : Hp) (res : AV) (hout : Hp) : Prop where
  pb : ∀ r,(hin r).isSome = true → pbase ≤ r
  own : ∀ r c,hout r = some c → ownL false c.2 = true ∧ refsL (fun r => (hout r).isSome) c.2 = true
  res : ownV false res = true ∧ refsV (fun r => (hout r).isSome) res = true
theorem Sim.mine_new {w0 w : World} {mu : Nat → Option Nat} {N : Nat} {s : AS} {tm : Array Value} {phi : Nat → Option Nat} {ro : Nat → Prop} (h : Sim w0 mu N s tm w phi ro) (hall : ∀ r b,mu r = some b → (s.hp r).isSome = true) {q b : Nat} (hq : (s.hp q).isSome = true) (hlt : q < pbase) (hp : phi q = some b) (hm : Mine w0 mu b) : w0.heap.size ≤ b := by
  rcases hm with h1|⟨r,hr,hmu⟩
  · exact h1
  exfalso
  have hs := hall r b hmu
  obtain ⟨c,hc⟩ := Option.isSome_iff_exists.1 hs
  have hge : pbase ≤ r := Nat.le_trans (by decide) hr
  have key : phi r = some b := by
    rcases h.liv r c hc with ⟨_,_,k3⟩|⟨b',_,_,k1,_,_,k4,_⟩|⟨b',_,_,k1,_,_,_,k4⟩
    · rw [k3 hge] at hmu; cases hmu
    · rcases k4 with k4|k4
      · omega
      · rw [k4.2] at hmu; cases hmu; exact k1
    · rcases k4 with k4|k4
      · omega
      · rw [k4.2] at hmu; cases hmu; exact k1
  have := h.inj q r b hq hs hp key
  omega
theorem specH_of {f : FuncId} {fn : Func} {code : Code} {ac : ACode} {ts : List Nat} {asx : List AV} {hin hout : Hp} {res : AV} (hf : P.funcs[f]? = some fn) (hb : fn.body = some code) (hc : ccode P (min fn.ntmps pbase) code = some ac) (hr : resTmps fn = some ts)
    (hst : Static hin res hout) (h : AW P (min fn.ntmps pbase) ac (enterH asx hin) (DoneH ts res hin hout)) : SpH P f asx hin res hout := by
  intro w vs phi hg hgb hinj hregs hs hl
  refine calls_of_wp hf hb (wp_mono (h code hc w _ _ w ⟨rfl,_,_,enterH_sim hg hgb hst.pb hinj hregs hs hl⟩) fun e a' w' hA => ?_)
  obtain ⟨s',h1,hf',phi',ro,hS⟩ := hA
  have fin : (∃ g : Nat → Nat,resAV s' ts = renV g res ∧ (∀ r c,hout r = some c → ∃ c0,s'.hp (g r) = some c0 ∧ (c0 = renR g c ∨ (c.2 = [] ∧ c0.2 = []))) ∧ (∀ r,(hin r).isSome = true → g r = r ∧ (hout r).isSome = true) ∧
      (∀ r,(hout r).isSome = true → hin r = none → g r < pbase) ∧ (∀ r r',(hout r).isSome = true → (hout r').isSome = true → g r = g r' → r = r')) → a'.defers = [] ∧ ∃ v,(results fn a'.tmps).run P w' = .ok v w' ∧
      ∃ v' phi',Ending.returned v = .returned v' ∧ w'.os = w.os ∧ w'.tape = w.tape ∧ w'.output = w.output ∧ w.heap.size ≤ w'.heap.size ∧
      (∀ r,(hin r).isSome = true → phi' r = phi r) ∧ (∀ b,b < w.heap.size → (∀ r,(hin r).isSome = true → phi r ≠ some b) → w'.heap[b]? = w.heap[b]?) ∧
      (∀ (b : Nat) (cur : Array Value) (e : TypeId) (f : Nat × Nat),w.heap[b]? = some (.cells cur e f) → ∃ cur' : Array Value,w'.heap[b]? = some (.cells cur' e f) ∧ cur'.size = cur.size) ∧
      Inj hout phi' ∧ (∀ r b,(hout r).isSome = true → hin r = none → phi' r = some b → w.heap.size ≤ b) ∧ Regs (ctxX w w' phi' hout) hout ∧ SimV res (ctxX w w' phi' hout) v' := by
    rintro ⟨g,hres,hhas,hstay,hfresh,hgi⟩
    have hlv : ∀ r,(hout r).isSome = true → (s'.hp (g r)).isSome = true := by
      intro r hr
      obtain ⟨c,hc⟩ := Option.isSome_iff_exists.1 hr
      obtain ⟨c0,h1,_⟩ := hhas r c hc
      rw [h1]; rfl
    have hall : ∀ r b,(if (hin r).isSome = true then phi r else none) = some b → (s'.hp r).isSome = true := by
      intro r b hb
      split at hb
      · rename_i hi
        have := hlv r (hstay r hi).2
        rw [(hstay r hi).1] at this
        exact this
      · cases hb
    have hvt : SimV (resAV s' ts) (ctx w w' ro phi' s') (resVal a'.tmps ts) := simv_res hS ts
    rw [hres] at hvt
    refine ⟨hf',_,run_results hr a'.tmps w' P,_,fun r => phi' (g r),rfl,hS.os,hS.tape,hS.output,hS.size,fun r hr => ?_,fun b hb hne => hS.kept b hb fun r hr => ?_,hS.shp,?_,?_,?_,?_⟩
    · obtain ⟨e1,e2⟩ := hstay r hr
      obtain ⟨c,hc⟩ := Option.isSome_iff_exists.1 e2
      obtain ⟨c0,hh,_⟩ := hhas r c hc
      rw [e1] at hh
      show phi' (g r) = phi r
      rw [e1]
      rcases hS.liv r _ hh with ⟨k1,_,k3⟩|⟨b,cur,e',k1,_,_,k4,_⟩|⟨b,o,_,k1,_,_,_,k4⟩
      case inr.inr =>
        rcases k4 with k4|k4
        · have := hst.pb r hr; omega
        · have k5 := k4.2
          simp only [hr,if_true] at k5
          rw [k1,k5]
      · have k5 := k3 (hst.pb r hr)
        simp only [hr,if_true] at k5
        rw [k1,k5]
      · rcases k4 with k4|k4
        · have := hst.pb r hr; omega
        · have k5 := k4.2
          simp only [hr,if_true] at k5
          rw [k1,k5]
    · split at hr
      · rename_i hrs; exact hne r hrs hr
      · cases hr
    · intro r r' b h1 h2 h3 h4
      exact hgi r r' h1 h2 (hS.inj _ _ b (hlv r h1) (hlv r' h2) h3 h4)
    · intro r b h1 h2 h3
      obtain ⟨c,hc⟩ := Option.isSome_iff_exists.1 h1
      have hlt := hfresh r h1 h2
      obtain ⟨c0,hh0,_⟩ := hhas r c hc
      rcases hS.liv _ _ hh0 with ⟨k1,_⟩|⟨b',_,_,k1,_,_,k4,_⟩|⟨b',_,_,k1,_,_,_,k4⟩
      · have h3' : phi' (g r) = some b := h3
        rw [k1] at h3'; cases h3'
      case inr.inr =>
        have h3' : phi' (g r) = some b := h3
        rw [k1] at h3'; cases h3'
        rcases k4 with k4|k4
        · exact hS.mine_new hall (by rw [hh0]; rfl) k4.1 k1 k4.2
        · omega
      · have h3' : phi' (g r) = some b := h3
        rw [k1] at h3'; cases h3'
        rcases k4 with k4|k4
        · exact hS.mine_new hall (by rw [hh0]; rfl) k4.1 k1 k4.2
        · omega
    · intro r c hc
      obtain ⟨ho,hrf⟩ := hst.own r c hc
      obtain ⟨c0,hh0,hc0⟩ := hhas r c hc
      rcases hS.liv _ _ hh0 with ⟨k1,k2,_⟩|⟨b,cur,e',k1,k2,_,_,k5⟩|⟨b,o,h0,k1,k2,k3,_⟩
      case inr.inr =>
        rcases hc0 with rfl|hc0
        · exact .inr (.inr ⟨b,o,renR_ob h0,k1,k2,k3⟩)
        · rw [h0] at hc0; simp at hc0
      · refine .inl ⟨k1,?_⟩
        rcases hc0 with rfl|hc0
        · obtain ⟨fl,cs⟩ := c
          simp only [renR,qw8] at k2
          exact List.map_eq_nil_iff.1 k2
        · exact hc0.1
      · rcases hc0 with rfl|hc0
        case inr => exact .inr (.inl ⟨b,cur,e',k1,k2,by unfold SimR; rw [hc0.1]; simp [SimL]⟩)
        refine .inr (.inl ?_)
        exact ⟨b,cur,e',k1,k2,simR_in (q := false) (C := ctxX w w' (fun r => phi' (g r)) hout) (D := ctx w w' ro phi' s') rfl (fun e => by cases e) (fun _ => rfl) (fun _ r _ => rfl) ho hrf k5⟩
    · exact simV_in false g (ctxX w w' (fun r => phi' (g r)) hout) (ctx w w' ro phi' s') rfl (fun e => by cases e) (fun _ => rfl) (fun _ r _ => rfl) res _ hst.res.1 hst.res.2 hvt
  cases e with
  | normal => exact fin h1
  | ret => exact fin h1
  | exit id => exact h1.elim
  | goto l => exact h1.elim
  | panic c => exact h1.elim
  | outgrown => exact h1.elim
def DoneX (ts : List Nat) {ι : Type} (ok : ι → Prop) (res : ι → AV) (hin : Hp) (hout : ι → Hp) (e : Exit) (s : AS) : Prop := ∃ i,ok i ∧ DoneH ts (res i) hin (hout i) e s
theorem qv5 {f : FuncId} {fn : Func} {code : Code} {ac : ACode} {ts : List Nat} {asx : List AV} {hin : Hp} {ι : Type} {ok : ι → Prop} {res : ι → AV} {hout : ι → Hp} (hf : P.funcs[f]? = some fn) (hb : fn.body = some code) (hc : ccode P (min fn.ntmps pbase) code = some ac) (hr : resTmps fn = some ts)
    (hpb : ∀ r,(hin r).isSome = true → pbase ≤ r) (hsta : ∀ i,ok i → Static hin (res i) (hout i)) (h : AW P (min fn.ntmps pbase) ac (enterH asx hin) (DoneX ts ok res hin hout)) : SpX P f asx hin ok res hout := by
  intro w vs phi hg hgb hinj hregs hs hl
  refine calls_of_wp hf hb (wp_mono (h code hc w _ _ w ⟨rfl,_,_,enterH_sim hg hgb hpb hinj hregs hs hl⟩) fun e a' w' hA => ?_)
  obtain ⟨s',h0,hf',phi',ro,hS⟩ := hA
  obtain ⟨i,hi,h1⟩ : ∃ i,ok i ∧ DoneH ts (res i) hin (hout i) e s' := h0
  have hst := hsta i hi
  clear h hsta
  have fin : (∃ g : Nat → Nat,resAV s' ts = renV g (res i) ∧ (∀ r c,hout i r = some c → ∃ c0,s'.hp (g r) = some c0 ∧ (c0 = renR g c ∨ (c.2 = [] ∧ c0.2 = []))) ∧ (∀ r,(hin r).isSome = true → g r = r ∧ (hout i r).isSome = true) ∧
      (∀ r,(hout i r).isSome = true → hin r = none → g r < pbase) ∧ (∀ r r',(hout i r).isSome = true → (hout i r').isSome = true → g r = g r' → r = r')) → a'.defers = [] ∧ ∃ v,(results fn a'.tmps).run P w' = .ok v w' ∧ ∃ i,ok i ∧
      ∃ v' phi',Ending.returned v = .returned v' ∧ w'.os = w.os ∧ w'.tape = w.tape ∧ w'.output = w.output ∧ w.heap.size ≤ w'.heap.size ∧
      (∀ r,(hin r).isSome = true → phi' r = phi r) ∧ (∀ b,b < w.heap.size → (∀ r,(hin r).isSome = true → phi r ≠ some b) → w'.heap[b]? = w.heap[b]?) ∧
      (∀ (b : Nat) (cur : Array Value) (e : TypeId) (f : Nat × Nat),w.heap[b]? = some (.cells cur e f) → ∃ cur' : Array Value,w'.heap[b]? = some (.cells cur' e f) ∧ cur'.size = cur.size) ∧
      Inj (hout i) phi' ∧ (∀ r b,(hout i r).isSome = true → hin r = none → phi' r = some b → w.heap.size ≤ b) ∧ Regs (ctxX w w' phi' (hout i)) (hout i) ∧ SimV (res i) (ctxX w w' phi' (hout i)) v' := by
    rintro ⟨g,hres,hhas,hstay,hfresh,hgi⟩
    have hlv : ∀ r,(hout i r).isSome = true → (s'.hp (g r)).isSome = true := by
      intro r hr
      obtain ⟨c,hc⟩ := Option.isSome_iff_exists.1 hr
      obtain ⟨c0,h1,_⟩ := hhas r c hc
      rw [h1]; rfl
    have hall : ∀ r b,(if (hin r).isSome = true then phi r else none) = some b → (s'.hp r).isSome = true := by
      intro r b hb
      split at hb
      · rename_i hi
        have := hlv r (hstay r hi).2
        rw [(hstay r hi).1] at this
        exact this
      · cases hb
    have hvt : SimV (resAV s' ts) (ctx w w' ro phi' s') (resVal a'.tmps ts) := simv_res hS ts
    rw [hres] at hvt
    refine ⟨hf',_,run_results hr a'.tmps w' P,i,hi,_,fun r => phi' (g r),rfl,hS.os,hS.tape,hS.output,hS.size,fun r hr => ?_,fun b hb hne => hS.kept b hb fun r hr => ?_,hS.shp,?_,?_,?_,?_⟩
    · obtain ⟨e1,e2⟩ := hstay r hr
      obtain ⟨c,hc⟩ := Option.isSome_iff_exists.1 e2
      obtain ⟨c0,hh,_⟩ := hhas r c hc
      rw [e1] at hh
      show phi' (g r) = phi r
      rw [e1]
      rcases hS.liv r _ hh with ⟨k1,_,k3⟩|⟨b,cur,e',k1,_,_,k4,_⟩|⟨b,o,_,k1,_,_,_,k4⟩
      case inr.inr =>
        rcases k4 with k4|k4
        · have := hst.pb r hr; omega
        · have k5 := k4.2
          simp only [hr,if_true] at k5
          rw [k1,k5]
      · have k5 := k3 (hst.pb r hr)
        simp only [hr,if_true] at k5
        rw [k1,k5]
      · rcases k4 with k4|k4
        · have := hst.pb r hr; omega
        · have k5 := k4.2
          simp only [hr,if_true] at k5
          rw [k1,k5]
    · split at hr
      · rename_i hrs; exact hne r hrs hr
      · cases hr
    · intro r r' b h1 h2 h3 h4
      exact hgi r r' h1 h2 (hS.inj _ _ b (hlv r h1) (hlv r' h2) h3 h4)
    · intro r b h1 h2 h3
      obtain ⟨c,hc⟩ := Option.isSome_iff_exists.1 h1
      have hlt := hfresh r h1 h2
      obtain ⟨c0,hh0,_⟩ := hhas r c hc
      rcases hS.liv _ _ hh0 with ⟨k1,_⟩|⟨b',_,_,k1,_,_,k4,_⟩|⟨b',_,_,k1,_,_,_,k4⟩
      · have h3' : phi' (g r) = some b := h3
        rw [k1] at h3'; cases h3'
      case inr.inr =>
        have h3' : phi' (g r) = some b := h3
        rw [k1] at h3'; cases h3'
        rcases k4 with k4|k4
        · exact hS.mine_new hall (by rw [hh0]; rfl) k4.1 k1 k4.2
        · omega
      · have h3' : phi' (g r) = some b := h3
        rw [k1] at h3'; cases h3'
        rcases k4 with k4|k4
        · exact hS.mine_new hall (by rw [hh0]; rfl) k4.1 k1 k4.2
        · omega
    · intro r c hc
      obtain ⟨ho,hrf⟩ := hst.own r c hc
      obtain ⟨c0,hh0,hc0⟩ := hhas r c hc
      rcases hS.liv _ _ hh0 with ⟨k1,k2,_⟩|⟨b,cur,e',k1,k2,_,_,k5⟩|⟨b,o,h0,k1,k2,k3,_⟩
      case inr.inr =>
        rcases hc0 with rfl|hc0
        · exact .inr (.inr ⟨b,o,renR_ob h0,k1,k2,k3⟩)
        · rw [h0] at hc0; simp at hc0
      · refine .inl ⟨k1,?_⟩
        rcases hc0 with rfl|hc0
        · obtain ⟨fl,cs⟩ := c
          simp only [renR,qw8] at k2
          exact List.map_eq_nil_iff.1 k2
        · exact hc0.1
      · rcases hc0 with rfl|hc0
        case inr => exact .inr (.inl ⟨b,cur,e',k1,k2,by unfold SimR; rw [hc0.1]; simp [SimL]⟩)
        refine .inr (.inl ?_)
        exact ⟨b,cur,e',k1,k2,simR_in (q := false) (C := ctxX w w' (fun r => phi' (g r)) (hout i)) (D := ctx w w' ro phi' s') rfl (fun e => by cases e) (fun _ => rfl) (fun _ r _ => rfl) ho hrf k5⟩
    · exact simV_in false g (ctxX w w' (fun r => phi' (g r)) (hout i)) (ctx w w' ro phi' s') rfl (fun e => by cases e) (fun _ => rfl) (fun _ r _ => rfl) (res i) _ hst.res.1 hst.res.2 hvt
  cases e with
  | normal => exact fin h1
  | ret => exact fin h1
  | exit id => exact h1.elim
  | goto l => exact h1.elim
  | panic c => exact h1.elim
  | outgrown => exact h1.elim
theorem ret_doneh {s : AS} {ts : List Nat} {res : AV} {hin hout : Hp} (g : Nat → Nat) (h1 : resAV s ts = renV g res) (h2 : ∀ r c,hout r = some c → ∃ c0,s.hp (g r) = some c0 ∧ (c0 = renR g c ∨ (c.2 = [] ∧ c0.2 = []))) (h3 : ∀ r,(hin r).isSome = true → g r = r ∧ (hout r).isSome = true)
    (h4 : ∀ r,(hout r).isSome = true → hin r = none → g r < pbase) (h5 : ∀ r r',(hout r).isSome = true → (hout r').isSome = true → g r = g r' → r = r') : DoneH ts res hin hout .ret s := ⟨g,h1,h2,h3,h4,h5⟩
theorem m_callh {s : AS} {K : AS → Prop} {d : Option Nat} {f : FuncId} {args : List Opd} {asx : List AV} {hin hout hp' : Hp} {res : AV} (g : Nat → Nat) (hs : SpH P f asx hin res hout) (ha : LendsH s.hp g hin (args.map s.ev) asx) (hL : Lent s g hin hout hp' res)
    (k : K (AS.put ⟨s.tm,hp'⟩ d (renV g res))) : aop1 P true ⟨d,.call f args,none⟩ s K := .inr (.inr (.inl ⟨rfl,asx,hin,Unit,fun _ => True,fun _ => res,fun _ => hout,g,fun _ => hp',hs.toX,ha,⟨(),trivial⟩,fun _ _ => ⟨hL,k⟩⟩))
theorem m_callx {s : AS} {K : AS → Prop} {d : Option Nat} {f : FuncId} {args : List Opd} {asx : List AV} {hin : Hp} {ι : Type} {ok : ι → Prop} {res : ι → AV} {hout hp' : ι → Hp} (g : Nat → Nat) (hs : SpX P f asx hin ok res hout) (ha : LendsH s.hp g hin (args.map s.ev) asx) (hne : ∃ i,ok i)
    (k : ∀ i,ok i → Lent s g hin (hout i) (hp' i) (res i) ∧ K (AS.put ⟨s.tm,hp' i⟩ d (renV g (res i)))) : aop1 P true ⟨d,.call f args,none⟩ s K := .inr (.inr (.inl ⟨rfl,asx,hin,ι,ok,res,hout,g,hp',hs,ha,hne,k⟩))
theorem entry_leE (w : World) (phi : Nat → Option Nat) : Ctx.Le { heap := w.heap,ro := fun b => b < w.heap.size,base := w.heap.size,phi := fun _ => none,live := fun _ => false,loc := false } (ctxE w phi fun _ => none) :=
  ⟨fun b hb => ⟨⟨hb,fun r hr => by simp at hr⟩,rfl⟩,Nat.le_refl _,fun e => by simp at e,fun e => by simp at e,fun e => by simp at e⟩
theorem lendsH_none {hp : Hp} {f : Nat → Nat} {xs asx : List AV} (h : Lends hp xs asx) : LendsH hp f (fun _ => none) xs asx := by
  intro w0 mu N tm w phi ro vs hS hs hl
  obtain ⟨h1,h2⟩ := h w0 mu N tm w phi ro vs hS hs hl
  exact ⟨SimL.mono _ _ _ _ (entry_leE w _) h1,h2⟩
theorem lendsH_ren {hp : Hp} {f : Nat → Nat} {hin : Hp} {asx : List AV} (hin1 : ∀ r c,hin r = some c → (hp (f r)).isSome = true) (ho : ownL true asx = true) (hr : refsL (fun r => (hin r).isSome) asx = true) : LendsH hp f hin (renL f asx) asx := by
  intro w0 mu N tm w phi ro vs hS hs hl
  rw [qw8,List.length_map] at hl
  refine ⟨?_,hl⟩
  refine simL_in true f (ctxE w (fun r => phi (f r)) hin) (ctx w0 w ro phi ⟨fun _ => .any,hp⟩) rfl (fun _ b hb => ?_) (fun _ => rfl) (fun _ r _ => rfl) asx vs ho hr hs
  refine ⟨hS.rob b hb,fun r hr hp' => ?_⟩
  obtain ⟨c,hc⟩ := Option.isSome_iff_exists.1 hr
  obtain ⟨c',hc'⟩ := Option.isSome_iff_exists.1 (hin1 r c hc)
  have hp'' : phi (f r) = some b := hp'
  rcases hS.liv _ _ hc' with ⟨h1,_⟩|⟨b',_,_,h1,_,h2,_⟩|⟨b',_,_,h1,_,_,h2,_⟩
  · rw [h1] at hp''; cases hp''
  · rw [h1] at hp''; cases hp''
    exact h2 hb
  · rw [h1] at hp''; cases hp''
    exact h2 hb
theorem spH_sp {f : FuncId} {asx : List AV} {res res' : AV} {hout : Hp} (h : SpH P f asx (fun _ => none) res hout)
    (hr : ∀ w w' phi v,(∀ r b,(hout r).isSome = true → phi r = some b → w.heap.size ≤ b) → Regs (ctxX w w' phi hout) hout → SimV res (ctxX w w' phi hout) v → SimV res' (fresh w w') v) : Sp P f asx res' := by
  intro w vs hg hent
  refine (h w vs (fun _ => none) hg (fun r b hr => by simp at hr) (fun r r' b hr => by simp at hr) (fun r c hc => by simp at hc) (SimL.mono _ _ _ _ (entry_leE w _) hent.1) (by simpa using hent.2)).mono fun x w' hpost => ?_
  obtain ⟨v,phi',rfl,hos,htape,hout',hsize,_,hkept,_,_,hnew,hregs,hres⟩ := hpost
  exact ⟨v,rfl,⟨hos,htape,hout',hsize,fun b hb => hkept b hb fun r hr => by simp at hr⟩,hr w w' phi' v (fun r b h1 h2 => hnew r b h1 rfl h2) hregs hres⟩
end Go.Am
namespace Go.Am
variable [Go.Am.CodeBlk]
variable {P : Program} {own : Bool} {N : Nat} {s : AS} {K : AS → Prop} {d : Option Nat}
mutual
theorem simV_ren (f : Nat → Nat) (C D : Ctx) (h1 : C.heap = D.heap) (h2 : C.ro = D.ro) (hb : C.base = D.base) (h3 : C.loc = D.loc) (h4 : ∀ r,C.live r = true → C.phi r = D.phi (f r)) :
    ∀ (x : AV) (y : Value),refsV C.live x = true → SimV (renV f x) D y → SimV x C y
  | .any,_,_,_ => by simp [SimV]
  | .v x,_,_,h => by simpa [SimV,renV] using h
  | .ro fr z cs n,y,_,h => by
    simp only [SimV,renV] at h ⊢
    rw [h1,h2,hb]
    refine h.imp_right fun ⟨b,o,cap,cur,e,fz,k1,k2,k3,k4,k5,k6,k7⟩ => ⟨b,o,cap,cur,e,fz,k1,k2,k3,k4,k5,k6,?_⟩
    exact SimL.mono _ _ _ _ ⟨fun b hb => ⟨by rw [show C.out.ro = C.ro from rfl,h2]; exact hb,by show C.heap[b]? = D.heap[b]?; rw [h1]⟩,by show C.base ≤ D.base; omega,fun e => by simp [Ctx.out] at e,fun e => by simp [Ctx.out] at e,fun e => by simp [Ctx.out] at e⟩ k7
  | .rp cs,y,_,h => by
    simp only [SimV,renV] at h ⊢
    rw [h1,h2]
    obtain ⟨b,o,cur,e,fz,k1,k2,k3,k4⟩ := h
    refine ⟨b,o,cur,e,fz,k1,k2,k3,?_⟩
    exact SimL.mono _ _ _ _ ⟨fun b hb => ⟨by rw [show C.out.ro = C.ro from rfl,h2]; exact hb,by show C.heap[b]? = D.heap[b]?; rw [h1]⟩,by show C.base ≤ D.base; omega,fun e => by simp [Ctx.out] at e,fun e => by simp [Ctx.out] at e,fun e => by simp [Ctx.out] at e⟩ k4
  | .sl r z off n,y,hr,h => by
    simp only [SimV,renV,refsV] at h hr ⊢
    obtain ⟨k1,k2,k3⟩ := h
    refine ⟨h3.trans k1,hr,?_⟩
    rw [h4 r hr,h1]
    exact k3
  | .pt r off,y,hr,h => by
    simp only [SimV,renV,refsV] at h hr ⊢
    obtain ⟨k1,k2,b,k3,k4⟩ := h
    exact ⟨h3.trans k1,hr,b,by rw [h4 r hr]; exact k3,by rw [h1]; exact k4⟩
  | .mp r,y,hr,h => by
    simp only [SimV,renV,refsV] at h hr ⊢
    obtain ⟨k1,k2,b,k3,k4⟩ := h
    exact ⟨h3.trans k1,hr,b,by rw [h4 r hr]; exact k3,k4⟩
  | .itr r,y,hr,h => by
    simp only [SimV,renV,refsV] at h hr ⊢
    obtain ⟨k1,k2,b,k3,k4⟩ := h
    exact ⟨h3.trans k1,hr,b,by rw [h4 r hr]; exact k3,k4⟩
  | .ob o,y,_,h => by simp [SimV,renV] at h
  | .fn g l k,y,hr,h => by
    simp only [SimV,renV,refsV] at h hr ⊢
    obtain ⟨a,b,k1,k2,k3,k4⟩ := h
    rw [qw8,List.length_map] at k3
    exact ⟨a,b,k1,k2,k3,simL_ren f C D h1 h2 hb h3 h4 l _ hr k4⟩
  | .fu z cs n,y,_,h => by
    simp only [SimV,renV] at h ⊢
    rw [h1,h2]
    refine h.imp_right fun ⟨b,o,cur,e,fz,k1,k2,k3,k4,k5⟩ => ⟨b,o,cur,e,fz,k1,k2,k3,k4,?_⟩
    exact SimL.mono _ _ _ _ ⟨fun b hb => ⟨by rw [show C.out.ro = C.ro from rfl,h2]; exact hb,by show C.heap[b]? = D.heap[b]?; rw [h1]⟩,by show C.base ≤ D.base; omega,fun e => by simp [Ctx.out] at e,fun e => by simp [Ctx.out] at e,fun e => by simp [Ctx.out] at e⟩ k5
  | .mit r m bm es ck,y,hr,h => by
    simp only [SimV,renV,refsV,Bool.and_eq_true] at h hr ⊢
    obtain ⟨k1,k2,⟨b,k3,k4⟩,k5⟩ := h
    refine ⟨h3.trans k1,hr.1,⟨b,by rw [h4 r hr.1]; exact k3,k4⟩,?_⟩
    rcases k5 with ⟨q,hq,k6,k7⟩|⟨hm,k6,k7⟩
    · obtain ⟨q0,rfl,rfl⟩ := Option.map_eq_some_iff.1 hq
      have hl : C.live q0 = true := by simpa using hr.2
      exact .inl ⟨q0,rfl,hl,by rw [h4 q0 hl]; exact k7⟩
    · exact .inr ⟨by simpa using hm,by rw [h2]; exact k6,by rw [h1]; exact k7⟩
  | .rmp fr es clock,y,_,h => by
    simp only [SimV,renV] at h ⊢
    obtain ⟨b,k1,k2,k3,k4⟩ := h
    exact ⟨b,k1,by rw [h1]; exact k2,by rw [h2]; exact k3,fun e => by rw [hb]; exact k4 e⟩
  | .agg l,y,hr,h => by
    simp only [SimV,renV,refsV] at h hr ⊢
    obtain ⟨a,k1,k2,k3⟩ := h
    rw [qw8,List.length_map] at k2
    exact ⟨a,k1,k2,simL_ren f C D h1 h2 hb h3 h4 l _ hr k3⟩
  | .tup l,y,hr,h => by
    simp only [SimV,renV,refsV] at h hr ⊢
    obtain ⟨a,k1,k2,k3⟩ := h
    rw [qw8,List.length_map] at k2
    exact ⟨a,k1,k2,simL_ren f C D h1 h2 hb h3 h4 l _ hr k3⟩
theorem simL_ren (f : Nat → Nat) (C D : Ctx) (h1 : C.heap = D.heap) (h2 : C.ro = D.ro) (hb : C.base = D.base) (h3 : C.loc = D.loc) (h4 : ∀ r,C.live r = true → C.phi r = D.phi (f r)) :
    ∀ (l : List AV) (ys : List Value),refsL C.live l = true → SimL (renL f l) D ys → SimL l C ys
  | [],_,_,_ => by simp [SimL]
  | _ :: _,[],_,h => by simp [SimL,renL] at h
  | a :: l,y :: ys,hr,h => by
    simp only [SimL,renL,refsL,Bool.and_eq_true] at h hr ⊢
    exact ⟨simV_ren f C D h1 h2 hb h3 h4 a y hr.1 h.1,simL_ren f C D h1 h2 hb h3 h4 l ys hr.2 h.2⟩
end
theorem simL_out_any (C D : Ctx) (h1 : C.heap = D.heap) (h2 : C.ro = D.ro) (hb : C.base = D.base) (l : List AV) (ys : List Value) (h : SimL l C.out ys) : SimL l D.out ys :=
  SimL.mono _ _ _ _ ⟨fun b hb' => ⟨by rw [show D.out.ro = D.ro from rfl,← h2]; exact hb',by show D.heap[b]? = C.heap[b]?; rw [h1]⟩,by show D.base ≤ C.base; omega,fun e => by simp [Ctx.out] at e,fun e => by simp [Ctx.out] at e,fun e => by simp [Ctx.out] at e⟩ h
def cellsRen (f : Nat → Nat) (c c' : Bool × List AV) : Prop := (c'.1 = true ∧ c = (true,c'.2)) ∨ (c'.1 = false ∧ (c = (false,renL f c'.2) ∨ (c'.2 = [] ∧ c.2 = []) ∨ (c = (true,c'.2) ∧ c'.2.all plainV = true)))
theorem weak_ren {s s' : AS} (f : Nat → Nat) (htm : ∀ t,s'.tm t = .any ∨ s.tm t = renV f (s'.tm t)) (hhp : ∀ r c',s'.hp r = some c' → ∃ c,s.hp (f r) = some c ∧ cellsRen f c c')
    (hinj : ∀ r r',(s'.hp r).isSome = true → (s'.hp r').isSome = true → f r = f r' → r = r') (hpb : ∀ r,(s'.hp r).isSome = true → (r < pbase ∧ f r < pbase) ∨ (pbase ≤ r ∧ f r = r))
    (href : ∀ t,refsV (fun r => (s'.hp r).isSome) (s'.tm t) = true) (hrefh : ∀ r cs,s'.hp r = some (false,cs) → refsL (fun r => (s'.hp r).isSome) cs = true) : Weak s s' := by
  intro w0 mu N a w hS
  obtain ⟨hf,phi,ro,hS⟩ := hS
  have hlive : ∀ r,(s'.hp r).isSome = true → (s.hp (f r)).isSome = true := by
    intro r hr
    obtain ⟨c,hc⟩ := Option.isSome_iff_exists.1 hr
    obtain ⟨c0,h1,_⟩ := hhp r c hc
    rw [h1]; rfl
  refine ⟨hf,fun r => phi (f r),ro,{ hS with
    inj := fun r r' b h1 h2 h3 h4 => hinj r r' h1 h2 (hS.inj _ _ b (hlive r h1) (hlive r' h2) h3 h4)
    liv := fun r c hc => ?_
    tms := fun t => ?_ }⟩
  · obtain ⟨c0,h1,h2⟩ := hhp r c hc
    have hp := hpb r (by rw [hc]; rfl)
    rcases hS.liv _ _ h1 with ⟨k1,k2,k3⟩|⟨b,cur,e,k1,k2,k3,k4,k5⟩|⟨b,o,rfl,k1,k2,k0,k3,k4⟩
    case inr.inr =>
      refine .inr (.inr ⟨b,o,?_,k1,k2,k0,k3,?_⟩)
      · obtain ⟨fl,cs⟩ := c
        rcases h2 with ⟨h3,h4⟩|⟨h3,h4⟩
        · simp only at h3 h4
          rw [h3]; exact h4.symm
        · simp only at h3
          rcases h4 with h4|⟨_,h4⟩|⟨h4,h5⟩
          · cases h4
          · simp at h4
          · simp only [Prod.mk.injEq,true_and] at h4
            rw [← h4] at h5
            simp [plainV] at h5
      · rcases hp with ⟨h3,h4⟩|⟨h3,h4⟩
        · rcases k4 with k4|k4
          · exact .inl ⟨h3,k4.2⟩
          · omega
        · rcases k4 with k4|k4
          · omega
          · exact .inr ⟨h3,by rw [← h4]; exact k4.2⟩
    · refine .inl ⟨k1,?_,fun hge => ?_⟩
      · rcases h2 with ⟨_,rfl⟩|⟨_,rfl|⟨h3,_⟩|⟨rfl,_⟩⟩
        · exact k2
        · simp only [qw8] at k2
          exact List.map_eq_nil_iff.1 k2
        · exact h3
        · exact k2
      · rcases hp with ⟨h3,_⟩|⟨_,h3⟩
        · omega
        · rw [h3] at k3; exact k3 hge
    · refine .inr (.inl ⟨b,cur,e,k1,k2,k3,?_,?_⟩)
      · rcases hp with ⟨h3,h4⟩|⟨h3,h4⟩
        · rcases k4 with k4|k4
          · exact .inl ⟨h3,k4.2⟩
          · omega
        · rcases k4 with k4|k4
          · omega
          · exact .inr ⟨h3,by rw [← h4]; exact k4.2⟩
      · obtain ⟨fl,cs⟩ := c
        rcases h2 with ⟨h3,h4⟩|⟨h3,h4⟩
        · simp only at h3 h4
          subst h3; subst h4
          simp only [SimR,if_true] at k5 ⊢
          exact simL_out_any (ctx w0 w ro phi s) (ctx w0 w ro (fun r => phi (f r)) s') rfl rfl rfl _ _ k5
        · simp only at h3 h4
          subst h3
          simp only [SimR,Bool.false_eq_true,if_false]
          rcases h4 with rfl|⟨h5,h6⟩|⟨rfl,h5⟩
          · simp only [SimR,Bool.false_eq_true,if_false] at k5
            exact simL_ren f (ctx w0 w ro (fun r => phi (f r)) s') (ctx w0 w ro phi s) rfl rfl rfl rfl (fun _ _ => rfl) cs _ (hrefh r cs hc) k5
          · rw [h5]; simp [SimL]
          · simp only [SimR,if_true] at k5
            exact qxg h5 k5
  · rcases htm t with h1|h1
    · rw [h1]; simp [SimV]
    · have h2 := hS.tms t
      rw [h1] at h2
      exact simV_ren f (ctx w0 w ro (fun r => phi (f r)) s') (ctx w0 w ro phi s) rfl rfl rfl rfl (fun _ _ => rfl) _ _ (href t) h2
def rowsC (b : Nat) : List (List Int) → List AV
  | [] => []
  | l :: rs => .sl b 1 0 l.length :: rowsC (b + 1) rs
theorem qu2 (b : Nat) (rows : List (List Int)) : (rowsC b rows).length = rows.length := by
  induction rows generalizing b with
  | nil => rfl
  | cons l rs ih => simp [rowsC,ih]
theorem rowsC_get (b : Nat) (rows : List (List Int)) (j : Nat) (hj : j < rows.length) : (rowsC b rows)[j]? = some (.sl (b + j) 1 0 (rows.getD j []).length) := by
  induction rows generalizing b j with
  | nil => simp at hj
  | cons l rs ih =>
    cases j with
    | zero => simp [rowsC]
    | succ j =>
      simp only [rowsC,List.getElem?_cons_succ]
      rw [ih (b + 1) j (by simpa using hj)]
      simp; omega
theorem rowsC_snoc (b : Nat) (rows : List (List Int)) (l : List Int) : rowsC b (rows ++ [l]) = rowsC b rows ++ [.sl (b + rows.length) 1 0 l.length] := by
  induction rows generalizing b with
  | nil => simp [rowsC]
  | cons r rs ih => simp only [List.cons_append,rowsC,ih]; congr 4; simp; omega
theorem rowsC_kill (r b : Nat) (rows : List (List Int)) (h : r < b) : killL r (rowsC b rows) = rowsC b rows := by
  induction rows generalizing b with
  | nil => rfl
  | cons l rs ih =>
    have : ¬ b = r := by omega
    simp only [rowsC,killL,killV,this,if_false]
    rw [ih (b + 1) (by omega)]
theorem rowsC_ren (f : Nat → Nat) (b b' : Nat) (rows : List (List Int)) (h : ∀ j,j < rows.length → f (b + j) = b' + j) : renL f (rowsC b rows) = rowsC b' rows := by
  induction rows generalizing b b' with
  | nil => rfl
  | cons l rs ih =>
    simp only [rowsC,renL,renV]
    have h0 := h 0 (by simp)
    rw [Nat.add_zero,Nat.add_zero] at h0
    rw [h0,ih (b + 1) (b' + 1) fun j hj => by
      have := h (j + 1) (by simpa using hj)
      rw [show b + 1 + j = b + (j + 1) by omega,this]; omega]
theorem rowsC_refs (keep : Nat → Bool) (b : Nat) (rows : List (List Int)) (h : ∀ j,j < rows.length → keep (b + j) = true) : refsL keep (rowsC b rows) = true := by
  induction rows generalizing b with
  | nil => rfl
  | cons l rs ih =>
    simp only [rowsC,refsL,refsV,Bool.and_eq_true]
    refine ⟨by have := h 0 (by simp); simpa using this,ih (b + 1) fun j hj => ?_⟩
    have := h (j + 1) (by simpa using hj)
    rw [show b + 1 + j = b + (j + 1) by omega]; exact this
theorem rowsC_own (b : Nat) (rows : List (List Int)) (q : Bool) : ownL q (rowsC b rows) = true := by
  induction rows generalizing b with
  | nil => rfl
  | cons l rs ih => simp only [rowsC,ownL,ownV,Bool.true_and]; exact ih _
def famH (h : Hp) (b : Nat) (rows : List (List Int)) : Hp := fun r => match h r with
  | some c => some c
  | none => if b ≤ r ∧ r < b + rows.length then some (true,(rows.getD (r - b) []).map AV.i) else none
theorem famH_row {h : Hp} {b : Nat} {rows : List (List Int)} {j : Nat} (hn : h (b + j) = none) (hj : j < rows.length) : famH h b rows (b + j) = some (true,(rows.getD j []).map AV.i) := by
  unfold famH
  rw [hn]
  simp only
  rw [if_pos ⟨by omega,by omega⟩,Nat.add_sub_cancel_left]
theorem famH_some {h : Hp} {b : Nat} {rows : List (List Int)} {r : Nat} {c : Bool × List AV} (e : famH h b rows r = some c) : h r = some c ∨ (h r = none ∧ ∃ j,j < rows.length ∧ r = b + j ∧ c = (true,(rows.getD j []).map AV.i)) := by
  unfold famH at e
  cases hr : h r with
  | some c' => rw [hr] at e; exact .inl e
  | none =>
    rw [hr] at e
    simp only at e
    split at e
    · rename_i hh
      cases e
      exact .inr ⟨rfl,r - b,by omega,by omega,rfl⟩
    · cases e
def stM (l : List (Nat × AV)) (h : List (Nat × (Bool × List AV))) (r0 b : Nat) (rows : List (List Int)) : AS :=
  ⟨fun t => (look l t).getD .any,famH (look ((r0,(false,rowsC b rows)) :: h)) b rows⟩
theorem look_none {β : Type} {l : List (Nat × β)} {t : Nat} (h : ∀ p ∈ l,p.1 < t) : look l t = none := by
  induction l with
  | nil => rfl
  | cons p l ih =>
    have h1 := h p (List.mem_cons_self ..)
    have : ¬ t = p.1 := by omega
    obtain ⟨k,x⟩ := p
    simp only [look]
    rw [if_neg this]
    exact ih fun q hq => h q (List.mem_cons_of_mem _ hq)
theorem qxh {β : Type} {l : List (Nat × β)} {t : Nat} {x : β} (h : look l t = some x) : (t,x) ∈ l := by
  induction l with
  | nil => simp [look] at h
  | cons p l ih =>
    obtain ⟨k,y⟩ := p
    simp only [look] at h
    split at h
    · rename_i e; subst e; cases h; exact List.mem_cons_self ..
    · exact List.mem_cons_of_mem _ (ih h)
theorem qw7 {l : List (Nat × AV)} {h : List (Nat × (Bool × List AV))} {r0 b : Nat} {rows : List (List Int)} (hk : ((r0,(false,rowsC b rows)) :: h).all (fun p => decide (p.1 < b)) = true) {j : Nat} (hj : j < rows.length) :
    (stM l h r0 b rows).hp (b + j) = some (true,(rows.getD j []).map AV.i) :=
  famH_row (look_none fun p hp => by have := List.all_eq_true.1 hk p hp; have := of_decide_eq_true this; omega) hj
def HasF (s : AS) (f : Nat → Nat) : List (Nat × AV) → Prop
  | [] => True
  | (t,x) :: l => s.tm t = renV f x ∧ HasF s f l
def HasRF (s : AS) (f : Nat → Nat) : List (Nat × (Bool × List AV)) → Prop
  | [] => True
  | (r,c) :: l => s.hp (f r) = some c ∧ HasRF s f l
theorem look_hasF {s : AS} {f : Nat → Nat} : ∀ {l : List (Nat × AV)} {t : Nat} {x : AV},HasF s f l → look l t = some x → s.tm t = renV f x
  | [],_,_,_,h => by simp [look] at h
  | (k,y) :: l,t,x,h,e => by
    simp only [look] at e
    split at e
    · rename_i hk; subst hk; cases e; exact h.1
    · exact look_hasF h.2 e
theorem look_hasRF {s : AS} {f : Nat → Nat} : ∀ {l : List (Nat × (Bool × List AV))} {r : Nat} {c : Bool × List AV},HasRF s f l → look l r = some c → s.hp (f r) = some c
  | [],_,_,_,h => by simp [look] at h
  | (k,y) :: l,t,x,h,e => by
    simp only [look] at e
    split at e
    · rename_i hk; subst hk; cases e; exact h.1
    · exact look_hasRF h.2 e
def nodupB : List Nat → Bool
  | [] => true
  | x :: l => !(l.contains x) && nodupB l
theorem nodupB_spec : ∀ {l : List Nat},nodupB l = true → l.Nodup
  | [],_ => by simp
  | x :: l,h => by
    simp only [nodupB,Bool.and_eq_true,Bool.not_eq_true'] at h
    rw [List.nodup_cons]
    exact ⟨fun hm => by rw [List.contains_iff_mem.2 hm] at h; simp at h,nodupB_spec h.2⟩
def nmF (b : Nat) (f0 g : Nat → Nat) : Nat → Nat := fun r => if r < b then f0 r else g (r - b)
def stC (l : List (Nat × AV)) (h : List (Nat × (Bool × List AV))) (r0 : Nat) (cs : List AV) (b : Nat) (rows : List (List Int)) : AS :=
  ⟨fun t => (look l t).getD .any,famH (look ((r0,(false,cs)) :: h)) b rows⟩
theorem stC_row {l : List (Nat × AV)} {h : List (Nat × (Bool × List AV))} {r0 b : Nat} {cs : List AV} {rows : List (List Int)} (hk : ((r0,(false,cs)) :: h).all (fun p => decide (p.1 < b)) = true) {j : Nat} (hj : j < rows.length) :
    (stC l h r0 cs b rows).hp (b + j) = some (true,(rows.getD j []).map AV.i) :=
  famH_row (look_none fun p hp => by have := List.all_eq_true.1 hk p hp; have := of_decide_eq_true this; omega) hj
theorem weak_matC {s : AS} {l : List (Nat × AV)} {h : List (Nat × (Bool × List AV))} {r0 b : Nat} {cs : List AV} {rows : List (List Int)} (f0 g : Nat → Nat)
    (hl : HasF s (nmF b f0 g) l) (hh : HasRF s (nmF b f0 g) h) (hflat : (h.all fun p => p.2.1) = true) (hk : (r0 :: h.map (·.1)).all (fun r => decide (r < b ∧ f0 r < b)) = true) (hpk : (r0 :: h.map (·.1)).all (fun r => decide ((r < pbase ∧ f0 r < pbase) ∨ (pbase ≤ r ∧ f0 r = r))) = true) (hpr : ∀ j,j < rows.length → (b + j < pbase ∧ g j < pbase) ∨ (pbase ≤ b + j ∧ g j = b + j)) (hr : refsT (fun r => (r0 :: h.map (·.1)).contains r) l = true)
    (h0 : ∃ c,s.hp (f0 r0) = some c ∧ cellsRen (nmF b f0 g) c (false,cs)) (hrefc : ∀ keep : Nat → Bool,(∀ j,j < rows.length → keep (b + j) = true) → refsL keep cs = true)
    (hrow : ∀ j,j < rows.length → s.hp (g j) = some (true,(rows.getD j []).map AV.i))
    (hndB : nodupB ((r0 :: h.map (·.1)).map f0) = true) (hg : ∀ j,j < rows.length → ∀ r ∈ (r0 :: h.map (·.1)),f0 r ≠ g j) (hgi : ∀ j j',j < rows.length → j' < rows.length → g j = g j' → j = j') : Weak s (stC l h r0 cs b rows) := by
  have hnd := nodupB_spec hndB
  have hkey : ∀ r c,look ((r0,(false,cs)) :: h) r = some c → r ∈ (r0 :: h.map (·.1)) := by
    intro r c hc
    have h1 : r ∈ ((r0,(false,cs)) :: h).map (·.1) := List.mem_map.2 ⟨(r,c),qxh hc,rfl⟩
    simpa using h1
  have hklt : ∀ r ∈ (r0 :: h.map (·.1)),r < b ∧ f0 r < b := fun r hr => of_decide_eq_true (List.all_eq_true.1 hk r hr)
  have hall : ((r0,(false,cs)) :: h).all (fun p => decide (p.1 < b)) = true := by
    rw [List.all_eq_true]
    intro p hp
    exact decide_eq_true (hklt p.1 (List.mem_map.2 ⟨p,hp,rfl⟩)).1
  have hinj0 : ∀ r ∈ (r0 :: h.map (·.1)),∀ r' ∈ (r0 :: h.map (·.1)),f0 r = f0 r' → r = r' := by
    generalize r0 :: h.map (·.1) = ks at hnd
    clear hkey hklt hg hr hk hpk hndB
    induction ks with
    | nil => intro r hr; simp at hr
    | cons k ks ih =>
      rw [List.map_cons,List.nodup_cons] at hnd
      intro r hr r' hr' e
      rcases List.mem_cons.1 hr with h1|h1
      · rcases List.mem_cons.1 hr' with h2|h2
        · rw [h1,h2]
        · rw [h1] at e
          exact absurd (List.mem_map.2 ⟨r',h2,e.symm⟩) hnd.1
      · rcases List.mem_cons.1 hr' with h2|h2
        · rw [h2] at e
          exact absurd (List.mem_map.2 ⟨r,h1,e⟩) hnd.1
        · exact ih hnd.2 r h1 r' h2 e
  have hsome : ∀ r,((stC l h r0 cs b rows).hp r).isSome = true → (r ∈ (r0 :: h.map (·.1)) ∧ nmF b f0 g r = f0 r) ∨ ∃ j,j < rows.length ∧ r = b + j ∧ nmF b f0 g r = g j := by
    intro r hr
    obtain ⟨c,hc⟩ := Option.isSome_iff_exists.1 hr
    rcases famH_some hc with h1|⟨_,j,hj,rfl,_⟩
    · have hm := hkey r c h1
      exact .inl ⟨hm,by unfold nmF; rw [if_pos (hklt r hm).1]⟩
    · exact .inr ⟨j,hj,rfl,by unfold nmF; rw [if_neg (by omega),Nat.add_sub_cancel_left]⟩
  have hlive : ∀ r,r ∈ (r0 :: h.map (·.1)) → ((stC l h r0 cs b rows).hp r).isSome = true := by
    intro r hr
    show (famH (look ((r0,(false,cs)) :: h)) b rows r).isSome = true
    have : ∃ c,look ((r0,(false,cs)) :: h) r = some c := by
      have key : ∀ l : List (Nat × (Bool × List AV)),r ∈ l.map (·.1) → ∃ c,look l r = some c := by
        intro l
        induction l with
        | nil => intro h; simp at h
        | cons p l ih =>
          intro h
          obtain ⟨k,y⟩ := p
          simp only [look]
          by_cases e : r = k
          · exact ⟨y,if_pos e⟩
          · rw [if_neg e]
            rw [List.map_cons,List.mem_cons] at h
            exact ih (h.resolve_left e)
      exact key _ (by simpa using hr)
    obtain ⟨c,hc⟩ := this
    unfold famH
    rw [hc]; rfl
  have hliveR : ∀ j,j < rows.length → ((stC l h r0 cs b rows).hp (b + j)).isSome = true := fun j hj => by rw [stC_row hall hj]; rfl
  refine weak_ren (nmF b f0 g) (fun t => ?_) (fun r c' hc => ?_) (fun r r' h1 h2 h3 => ?_) (fun r h1 => ?_) (fun t => ?_) (fun r cs' hc => ?_)
  · show (look l t).getD .any = .any ∨ s.tm t = renV _ ((look l t).getD .any)
    cases hx : look l t with
    | none => exact .inl rfl
    | some x => exact .inr (look_hasF hl hx)
  · rcases famH_some hc with h1|⟨h1,j,hj,rfl,rfl⟩
    · have hm := hkey r c' h1
      have hnm : nmF b f0 g r = f0 r := by unfold nmF; rw [if_pos (hklt r hm).1]
      simp only [look] at h1
      split at h1
      · rename_i e
        cases h1
        rw [hnm,e]
        exact h0
      · refine ⟨_,look_hasRF hh h1,.inl ⟨?_,?_⟩⟩
        · exact List.all_eq_true.1 hflat _ (qxh h1)
        · have := List.all_eq_true.1 hflat _ (qxh h1)
          obtain ⟨fl,cs⟩ := c'
          simp only at this
          subst this; rfl
    · refine ⟨_,?_,.inl ⟨rfl,rfl⟩⟩
      unfold nmF
      rw [if_neg (by omega),Nat.add_sub_cancel_left]
      exact hrow j hj
  · rcases hsome r h1 with ⟨m1,e1⟩|⟨j,hj,rfl,e1⟩
    · rcases hsome r' h2 with ⟨m2,e2⟩|⟨j',hj',rfl,e2⟩
      · rw [e1,e2] at h3
        exact hinj0 r m1 r' m2 h3
      · rw [e1,e2] at h3
        exact absurd h3 (hg j' hj' r m1)
    · rcases hsome r' h2 with ⟨m2,e2⟩|⟨j',hj',rfl,e2⟩
      · rw [e1,e2] at h3
        exact absurd h3.symm (hg j hj r' m2)
      · rw [e1,e2] at h3
        rw [hgi j j' hj hj' h3]
  · rcases hsome r h1 with ⟨m1,e1⟩|⟨j,hj,rfl,e1⟩
    · have := of_decide_eq_true (List.all_eq_true.1 hpk r m1)
      rw [e1]; exact this
    · rw [e1]; exact hpr j hj
  · show refsV _ ((look l t).getD .any) = true
    cases hx : look l t with
    | none => rfl
    | some x =>
      have h1 := look_refs hr hx
      have key := AV.rec_1 (motive_1 := fun x => refsV (fun r => (r0 :: h.map (·.1)).contains r) x = true → refsV (fun r => ((stC l h r0 cs b rows).hp r).isSome) x = true) (motive_2 := fun l' => refsL (fun r => (r0 :: h.map (·.1)).contains r) l' = true → refsL (fun r => ((stC l h r0 cs b rows).hp r).isSome) l' = true)
        (by simp [refsV]) (by simp [refsV]) (by intros; simp [refsV]) (by intros; simp [refsV]) (fun q _ _ _ hq => by simp only [refsV] at hq ⊢; exact hlive q (List.contains_iff_mem.1 hq))
        (fun q _ hq => by simp only [refsV] at hq ⊢; exact hlive q (List.contains_iff_mem.1 hq)) (fun l hl hq => by simp only [refsV] at hq ⊢; exact hl hq) (fun l hl hq => by simp only [refsV] at hq ⊢; exact hl hq)
        (fun q hq => by simp only [refsV] at hq ⊢; exact hlive q (List.contains_iff_mem.1 hq)) (fun q hq => by simp only [refsV] at hq ⊢; exact hlive q (List.contains_iff_mem.1 hq)) (by intros; simp [refsV]) (fun f l k hl hq => by simp only [refsV] at hq ⊢; exact hl hq) (by intros; simp [refsV]) (by intros; simp [refsV]) (fun q m _ _ _ hq => by
          simp only [refsV,Bool.and_eq_true] at hq ⊢
          refine ⟨hlive q (List.contains_iff_mem.1 hq.1),?_⟩
          cases m with
          | none => rfl
          | some k => exact hlive k (List.contains_iff_mem.1 (by simpa using hq.2)))
        (by simp [refsL]) (fun a l ha hl hq => by simp only [refsL,Bool.and_eq_true] at hq ⊢; exact ⟨ha hq.1,hl hq.2⟩) [x]
      have := key (by simp only [refsL,Bool.and_eq_true,and_true]; exact h1)
      simp only [refsL,Bool.and_eq_true,and_true] at this
      exact this
  · rcases famH_some hc with h1|⟨_,j,_,_,h2⟩
    · simp only [look] at h1
      split at h1
      · cases h1
        exact hrefc _ hliveR
      · have := List.all_eq_true.1 hflat _ (qxh h1)
        simp at this
    · cases h2
theorem weak_mat {s : AS} {l : List (Nat × AV)} {h : List (Nat × (Bool × List AV))} {r0 b : Nat} {rows : List (List Int)} (f0 g : Nat → Nat)
    (hl : HasF s (nmF b f0 g) l) (hh : HasRF s (nmF b f0 g) h) (hflat : (h.all fun p => p.2.1) = true) (hk : (r0 :: h.map (·.1)).all (fun r => decide (r < b ∧ f0 r < b)) = true) (hpk : (r0 :: h.map (·.1)).all (fun r => decide ((r < pbase ∧ f0 r < pbase) ∨ (pbase ≤ r ∧ f0 r = r))) = true) (hpr : ∀ j,j < rows.length → (b + j < pbase ∧ g j < pbase) ∨ (pbase ≤ b + j ∧ g j = b + j)) (hr : refsT (fun r => (r0 :: h.map (·.1)).contains r) l = true)
    (h0 : ∃ fl cs,s.hp (f0 r0) = some (fl,cs) ∧ (fl = false ∧ cs = renL (nmF b f0 g) (rowsC b rows) ∨ rows = [] ∧ cs = []))
    (hrow : ∀ j,j < rows.length → s.hp (g j) = some (true,(rows.getD j []).map AV.i))
    (hndB : nodupB ((r0 :: h.map (·.1)).map f0) = true) (hg : ∀ j,j < rows.length → ∀ r ∈ (r0 :: h.map (·.1)),f0 r ≠ g j) (hgi : ∀ j j',j < rows.length → j' < rows.length → g j = g j' → j = j') : Weak s (stM l h r0 b rows) := by
  obtain ⟨fl,cs,h1,h2⟩ := h0
  refine weak_matC (cs := rowsC b rows) f0 g hl hh hflat hk hpk hpr hr ⟨_,h1,.inr ⟨rfl,?_⟩⟩ (fun keep hkp => rowsC_refs _ _ _ hkp) hrow hndB hg hgi
  rcases h2 with ⟨rfl,rfl⟩|⟨h3,h4⟩
  · exact .inl rfl
  · exact .inr (.inl ⟨by show rowsC b rows = []; rw [h3]; rfl,h4⟩)
theorem qvc {s : AS} {l : List (Nat × AV)} {h : List (Nat × (Bool × List AV))} {r0 b : Nat} {rows : List (List Int)} (f0 : Nat → Nat)
    (hl : HasF s (nmF b f0 fun j => b + j) l) (hh : HasRF s (nmF b f0 fun j => b + j) h) (hflat : (h.all fun p => p.2.1) = true) (hk : (r0 :: h.map (·.1)).all (fun r => decide (r < b ∧ f0 r < b)) = true)
    (hpk : (r0 :: h.map (·.1)).all (fun r => decide ((r < pbase ∧ f0 r < pbase) ∨ (pbase ≤ r ∧ f0 r = r))) = true) (hb : b + rows.length ≤ pbase ∨ pbase ≤ b) (hr : refsT (fun r => (r0 :: h.map (·.1)).contains r) l = true) (hndB : nodupB ((r0 :: h.map (·.1)).map f0) = true)
    {fl : Bool} {cs : List AV} (h0 : s.hp (f0 r0) = some (fl,cs)) (hcs : fl = false ∧ cs = rowsC b rows ∨ rows = [] ∧ cs = [])
    (hrow : ∀ j,j < rows.length → s.hp (b + j) = some (true,(rows.getD j []).map AV.i)) : Weak s (stM l h r0 b rows) := by
  refine weak_mat f0 (fun j => b + j) hl hh hflat hk hpk (fun j hj => by rcases hb with hb|hb; exact .inl ⟨by omega,by omega⟩; exact .inr ⟨by omega,rfl⟩) hr ⟨fl,cs,h0,?_⟩ hrow hndB (fun j hj r hr => ?_) (fun j j' _ _ e => by omega)
  · rcases hcs with ⟨h1,h2⟩|h1
    · exact .inl ⟨h1,by rw [h2,rowsC_ren _ b b]; intro j _; unfold nmF; rw [if_neg (by omega),Nat.add_sub_cancel_left]⟩
    · exact .inr h1
  · have := of_decide_eq_true (List.all_eq_true.1 hk r hr)
    omega
def gpush (b m q : Nat) : Nat → Nat := fun j => if j < m then b + j else q
theorem renL_append (f : Nat → Nat) (l m : List AV) : renL f (l ++ m) = renL f l ++ renL f m := by rw [qw8,qw8,qw8,List.map_append]
theorem weak_push {s : AS} {l : List (Nat × AV)} {h : List (Nat × (Bool × List AV))} {r0 b : Nat} {rows : List (List Int)} {row : List Int} (f0 : Nat → Nat) (q : Nat)
    (hl : HasF s (nmF b f0 (gpush b rows.length q)) l) (hh : HasRF s (nmF b f0 (gpush b rows.length q)) h) (hflat : (h.all fun p => p.2.1) = true) (hk : (r0 :: h.map (·.1)).all (fun r => decide (r < b ∧ f0 r < b)) = true)
    (hpk : (r0 :: h.map (·.1)).all (fun r => decide ((r < pbase ∧ f0 r < pbase) ∨ (pbase ≤ r ∧ f0 r = r))) = true) (hb : b + rows.length + 1 ≤ pbase) (hr : refsT (fun r => (r0 :: h.map (·.1)).contains r) l = true) (hndB : nodupB ((r0 :: h.map (·.1)).map f0) = true)
    (hqb : q < b) (hqn : ((r0 :: h.map (·.1)).map f0).contains q = false)
    {cs : List AV} (h0 : s.hp (f0 r0) = some (false,cs)) (hcs : cs = rowsC b rows ++ [.sl q 1 0 row.length]) (hq : s.hp q = some (true,row.map AV.i))
    (hrow : ∀ j,j < rows.length → s.hp (b + j) = some (true,(rows.getD j []).map AV.i)) : Weak s (stM l h r0 b (rows ++ [row])) := by
  have hlen : (rows ++ [row]).length = rows.length + 1 := by simp
  refine weak_mat f0 (gpush b rows.length q) hl hh hflat hk hpk (fun j hj => .inl ⟨by omega,by unfold gpush; split <;> omega⟩) hr ⟨false,cs,h0,.inl ⟨rfl,?_⟩⟩ (fun j hj => ?_) hndB (fun j hj r hr => ?_) (fun j j' h1 h2 e => ?_)
  · rw [hcs,rowsC_snoc,renL_append,rowsC_ren _ b b]
    · simp only [renL,renV]
      unfold nmF gpush
      rw [if_neg (by omega),Nat.add_sub_cancel_left,if_neg (by omega)]
    · intro j hj
      unfold nmF gpush
      rw [if_neg (by omega),Nat.add_sub_cancel_left,if_pos hj]
  · unfold gpush
    by_cases hj' : j < rows.length
    · rw [if_pos hj',hrow j hj']
      simp [List.getElem?_append,hj']
    · have : j = rows.length := by omega
      subst this
      rw [if_neg hj',hq]
      simp
  · have := of_decide_eq_true (List.all_eq_true.1 hk r hr)
    unfold gpush
    split
    · omega
    · intro e
      have hm : q ∈ (r0 :: h.map (·.1)).map f0 := List.mem_map.2 ⟨r,hr,e⟩
      have := List.contains_iff_mem.2 hm
      rw [hqn] at this; cases this
  · unfold gpush at e
    split at e <;> split at e <;> omega
theorem qua (s : AS) (d : Option Nat) (x : AV) : (s.put d x).hp = s.hp := by cases d <;> rfl
theorem qwe {s : AS} {q r : Nat} {c : Bool × List AV} (h : r ≠ q) : (s.mem q c).hp r = s.hp r := by simp [AS.mem,h]
theorem qw6 {s : AS} {q r : Nat} (h : r ≠ q) : (s.kill q).hp r = (s.hp r).map (killR q) := by simp [AS.kill,h]
end Go.Am
namespace Go.Am
variable [Go.Am.CodeBlk]
variable {P : Program} {own : Bool} {N : Nat} {s : AS} {K : AS → Prop} {d : Option Nat}
def nbase : Nat := 8000000
def matH (r0 b : Nat) (rows : List (List Int)) : Hp := famH (fun r => if r = r0 then some (false,rowsC b rows) else none) b rows
theorem qvd {r0 b r : Nat} {rows : List (List Int)} {c : Bool × List AV} (h : matH r0 b rows r = some c) : (r = r0 ∧ c = (false,rowsC b rows)) ∨ ∃ j,j < rows.length ∧ r = b + j ∧ c = (true,(rows.getD j []).map AV.i) := by
  rcases famH_some h with h1|⟨_,h1⟩
  · split at h1
    · rename_i e; cases h1; exact .inl ⟨e,rfl⟩
    · cases h1
  · exact .inr h1
theorem matH_outer (r0 b : Nat) (rows : List (List Int)) : matH r0 b rows r0 = some (false,rowsC b rows) := by simp [matH,famH]
theorem matH_row {r0 b : Nat} {rows : List (List Int)} {j : Nat} (h : r0 < b) (hj : j < rows.length) : matH r0 b rows (b + j) = some (true,(rows.getD j []).map AV.i) :=
  famH_row (by have : ¬ b + j = r0 := by omega
               simp [this]) hj
theorem qwg (f : Nat → Nat) (l : List Int) : renL f (l.map AV.i) = l.map AV.i := by
  induction l with
  | nil => rfl
  | cons x l ih => simp only [List.map_cons,renL,renV,ih]
theorem ownL_ints (q : Bool) (l : List Int) : ownL q (l.map AV.i) = true := by
  induction l with
  | nil => rfl
  | cons x l ih => simp only [List.map_cons,ownL,ownV,ih,Bool.and_self]
theorem refsL_ints (keep : Nat → Bool) (l : List Int) : refsL keep (l.map AV.i) = true := by
  induction l with
  | nil => rfl
  | cons x l ih => simp only [List.map_cons,refsL,refsV,ih,Bool.and_self]
theorem matH_own {r0 b : Nat} {rows : List (List Int)} (h : r0 < b) (r : Nat) (c : Bool × List AV) (hc : matH r0 b rows r = some c) : ownL false c.2 = true ∧ refsL (fun r => (matH r0 b rows r).isSome) c.2 = true := by
  rcases qvd hc with ⟨rfl,rfl⟩|⟨j,hj,rfl,rfl⟩
  · exact ⟨rowsC_own _ _ _,rowsC_refs _ _ _ fun j hj => by rw [matH_row h hj]; rfl⟩
  · exact ⟨ownL_ints _ _,refsL_ints _ _⟩
def gnm (q b : Nat) : Nat → Nat := fun r => if r = nbase then q else b + (r - (nbase + 1))
theorem qu5 (q b : Nat) : gnm q b nbase = q := if_pos rfl
theorem quh (q b j : Nat) : gnm q b (nbase + 1 + j) = b + j := by
  unfold gnm
  rw [if_neg (by omega),Nat.add_sub_cancel_left]
theorem gnm_inj {q b : Nat} (hq : q < b) {rows : List (List Int)} {r r' : Nat} (h1 : (matH nbase (nbase + 1) rows r).isSome = true) (h2 : (matH nbase (nbase + 1) rows r').isSome = true) (e : gnm q b r = gnm q b r') : r = r' := by
  obtain ⟨c,hc⟩ := Option.isSome_iff_exists.1 h1
  obtain ⟨c',hc'⟩ := Option.isSome_iff_exists.1 h2
  rcases qvd hc with ⟨rfl,_⟩|⟨j,hj,rfl,_⟩
  · rcases qvd hc' with ⟨rfl,_⟩|⟨j',hj',rfl,_⟩
    · rfl
    · rw [qu5,quh] at e; omega
  · rcases qvd hc' with ⟨rfl,_⟩|⟨j',hj',rfl,_⟩
    · rw [qu5,quh] at e; omega
    · rw [quh,quh] at e; omega
theorem gnm_cells (q b : Nat) (rows : List (List Int)) : renL (gnm q b) (rowsC (nbase + 1) rows) = rowsC b rows := rowsC_ren _ _ _ _ fun j _ => quh q b j
theorem gnm_hp {q b : Nat} {rows : List (List Int)} {hp : Hp} (h0 : hp q = some (false,rowsC b rows)) (hr : ∀ j,j < rows.length → hp (b + j) = some (true,(rows.getD j []).map AV.i)) (r : Nat) (c : Bool × List AV) (hc : matH nbase (nbase + 1) rows r = some c) :
    hp (gnm q b r) = some (renR (gnm q b) c) := by
  rcases qvd hc with ⟨rfl,rfl⟩|⟨j,hj,rfl,rfl⟩
  · rw [qu5,h0]
    simp only [renR]
    rw [gnm_cells]
  · rw [quh,hr j hj]
    simp only [renR]
    rw [qwg]
abbrev matO (rows : List (List Int)) : Hp := matH nbase (nbase + 1) rows
theorem static_mat1 (rows : List (List Int)) : Static (fun _ => none) (.sl nbase 1 0 rows.length) (matO rows) :=
  ⟨fun r h => by simp at h,matH_own (by omega),by simp [ownV],by simp [refsV,matO,matH_outer]⟩
theorem static_mat2 (rows : List (List Int)) (x : Value) : Static (fun _ => none) (.tup [.sl nbase 1 0 rows.length,.v x]) (matO rows) :=
  ⟨fun r h => by simp at h,matH_own (by omega),by simp [ownV,ownL],by simp [refsV,refsL,matO,matH_outer]⟩
theorem ret_mat {r0 b : Nat} {rows : List (List Int)} {ts : List Nat} {res : AV} (hr0 : r0 < b) (hpb : r0 < pbase) (hb : b + rows.length ≤ pbase)
    (h1 : resAV s ts = renV (gnm r0 b) res) (h0 : s.hp r0 = some (false,rowsC b rows)) (hrow : ∀ j,j < rows.length → s.hp (b + j) = some (true,(rows.getD j []).map AV.i)) : DoneH ts res (fun _ => none) (matO rows) .ret s := by
  refine ret_doneh (gnm r0 b) h1 (fun r c hc => ⟨_,gnm_hp h0 hrow r c hc,.inl rfl⟩) (fun r hr => by simp at hr) (fun r hr _ => ?_) fun r r' h2 h3 e => gnm_inj hr0 h2 h3 e
  obtain ⟨c,hc⟩ := Option.isSome_iff_exists.1 hr
  rcases qvd hc with ⟨rfl,_⟩|⟨j,hj,rfl,_⟩
  · rw [qu5]; exact hpb
  · rw [quh]; omega
theorem ret_mat0 {r0 : Nat} {fl : Bool} {ts : List Nat} {res : AV} (hpb : r0 < pbase) (h1 : resAV s ts = renV (gnm r0 (r0 + 1)) res) (h0 : s.hp r0 = some (fl,[])) : DoneH ts res (fun _ => none) (matO []) .ret s := by
  refine ret_doneh (gnm r0 (r0 + 1)) h1 (fun r c hc => ?_) (fun r hr => by simp at hr) (fun r hr _ => ?_) fun r r' h2 h3 e => gnm_inj (by omega) h2 h3 e
  · rcases qvd hc with ⟨rfl,rfl⟩|⟨j,hj,_⟩
    · exact ⟨_,by rw [qu5]; exact h0,.inr ⟨rfl,rfl⟩⟩
    · simp at hj
  · obtain ⟨c,hc⟩ := Option.isSome_iff_exists.1 hr
    rcases qvd hc with ⟨rfl,_⟩|⟨j,hj,_⟩
    · rw [qu5]; exact hpb
    · simp at hj
def AS.addM (s : AS) (q b : Nat) (rows : List (List Int)) : AS := ⟨s.tm,famH (fun r => if r = q then some (false,rowsC b rows) else s.hp r) b rows⟩
theorem addM_row {s : AS} {q b : Nat} {rows : List (List Int)} {j : Nat} (hq : q < b) (hn : s.hp (b + j) = none) (hj : j < rows.length) : (s.addM q b rows).hp (b + j) = some (true,(rows.getD j []).map AV.i) :=
  famH_row (h := fun r => if r = q then some (false,rowsC b rows) else s.hp r) (by
    show (if b + j = q then some (false,rowsC b rows) else s.hp (b + j)) = none
    rw [if_neg (by omega)]; exact hn) hj
theorem m_callM {f : FuncId} {args : List Opd} {asx : List AV} {rows : List (List Int)} {res : AV} (q b : Nat) (hs : SpH P f asx (fun _ => none) res (matO rows)) (hl : Lends s.hp (args.map s.ev) asx) (hor : ownV false res = true) (hqb : q < b) (hqp : q < pbase) (hb : b + rows.length ≤ pbase)
    (hq : s.hp q = none) (hrow : ∀ j,j < rows.length → s.hp (b + j) = none)
    (k : K (AS.put (s.addM q b rows) d (renV (gnm q b) res))) : aop1 P true ⟨d,.call f args,none⟩ s K := by
  refine m_callh (gnm q b) hs (lendsH_none hl) ⟨fun r c h => by simp at h,fun r r' h1 h2 e => gnm_inj hqb h1 h2 e,fun r h => by simp at h,fun r hr _ => ?_,gnm_hp ?_ fun j hj => ?_,fun p hp => ?_,fun r c h => by simp at h,fun r c hc => (matH_own (by omega) r c hc).1,hor⟩ k
  · obtain ⟨c,hc⟩ := Option.isSome_iff_exists.1 hr
    rcases qvd hc with ⟨rfl,_⟩|⟨j,hj,rfl,_⟩
    · rw [qu5]; exact ⟨hq,hqp⟩
    · rw [quh]; exact ⟨hrow j hj,by omega⟩
  · simp [famH]
  · exact famH_row (by have : ¬ b + j = q := by omega
                       simp only [this,if_false]; exact hrow j hj) hj
  · have h1 : p ≠ q := fun e => hp nbase (by rw [matO,matH_outer]; rfl) (by rw [qu5]; exact e.symm)
    unfold famH
    simp only [h1,if_false]
    cases hh : s.hp p with
    | some c => rfl
    | none =>
      simp only
      rw [if_neg]
      rintro ⟨h2,h3⟩
      refine hp (nbase + 1 + (p - b)) ?_ ?_
      · rw [matO,matH_row (by omega) (by omega)]; rfl
      · rw [quh]; omega
abbrev roM (rows : List (List Int)) : AV := .ro false 1 (rows.map ints) rows.length
abbrev roF (rows : List (List Int)) : AV := .ro true 1 (rows.map newInts) rows.length
theorem roM_at {rows : List (List Int)} {k : Nat} (h : k < rows.length) : ((rows.map ints).drop k)[0]? = some (ints (rows.getD k [])) := by simp [h]
theorem lend_mat {hp : Hp} {r b : Nat} {rows : List (List Int)} (hr : hp r = some (false,rowsC b rows)) (hrow : ∀ j,j < rows.length → hp (b + j) = some (true,(rows.getD j []).map AV.i)) : Lend hp (.sl r 1 0 rows.length) (roM rows) := by
  intro w0 mu N tm w phi ro v hS h
  simp only [SimV] at h ⊢
  rcases h.2.2 with ⟨h1,_,h3,h4⟩|⟨b',o,cap,cur,e,h1,h2,h3,h4,h5,h6,h7⟩
  · have : rows = [] := List.eq_nil_of_length_eq_zero h3
    subst this
    exact .inl ⟨rfl,rfl,none,0,by simpa using h4,by simp⟩
  · have ho : o = 0 := by
      rcases h4 with h4|h4
      · exact h4
      · omega
    subst ho
    rcases hS.liv r _ hr with ⟨h8,_⟩|⟨b2,cur',e',h8,h9,h10,h11,h12⟩|⟨b2,o2,h0,_⟩
    · have : phi r = some b' := h1
      rw [h8] at this; cases this
    case inr.inr => cases h0
    · have h1' : phi r = some b' := h1
      rw [h8] at h1'
      cases h1'
      have h3' : w.heap[b']? = some (.cells cur e (0,0)) := h3
      rw [h9] at h3'
      cases h3'
      refine .inr ⟨b',0,cap,cur,e,(0,0),h2,h9,qyc h9,by simp,h5,by simp,?_⟩
      simp only [SimR,Bool.false_eq_true,if_false] at h12
      rw [List.drop_zero]
      refine SimL.of_get fun j a hj => ?_
      rw [List.getElem?_map,Option.map_eq_some_iff] at hj
      obtain ⟨l,hl,rfl⟩ := hj
      have hjl := (List.getElem?_eq_some_iff.1 hl).1
      have e1 : rows.getD j [] = l := by rw [List.getD_eq_getElem?_getD,hl]; rfl
      obtain ⟨y,k1,k2⟩ := h12.get (rowsC_get b rows j hjl)
      refine ⟨y,k1,?_⟩
      rw [e1] at k2
      have hrj := hrow j hjl
      rw [e1] at hrj
      have := qw9 (hp := hp) (r := b + j) (L := l) hrj rfl w0 mu N tm w phi ro y hS k2
      rw [SimV] at this ⊢
      exact this
theorem lend_roM {hp : Hp} {fr fr2 : Bool} {n : Nat} {rows : List (List Int)} (hn : n = rows.length) : Lend hp (.ro fr 1 (rows.map fun l => .ro fr2 1 (l.map AV.i) l.length) n) (roM rows) := by
  subst hn
  intro w0 mu N tm w phi ro v hS h
  simp only [SimV] at h ⊢
  rcases h with ⟨h1,h2,a,c,h3,_⟩|⟨b,o,cap,cur,e,fz,h1,h2,h3,h4,h5,_,h6⟩
  · have : rows = [] := List.eq_nil_of_length_eq_zero h1
    subst this
    exact .inl ⟨rfl,rfl,a,c,h3,by simp⟩
  · refine .inr ⟨b,o,cap,cur,e,fz,h1,h2,hS.rob b h3,by simp,h5,by simp,?_⟩
    refine SimL.of_get fun j x hj => ?_
    rw [List.getElem?_map,Option.map_eq_some_iff] at hj
    obtain ⟨l,hl,rfl⟩ := hj
    obtain ⟨y,k1,k2⟩ := h6.get (i := j) (a := .ro fr2 1 (l.map AV.i) l.length) (by rw [List.getElem?_map,hl]; rfl)
    refine ⟨y,k1,?_⟩
    simp only [SimV] at k2 ⊢
    rcases k2 with ⟨g1,g2,a',c',g3,_⟩|⟨b',o',cap',cur',e',fz',g1,g2,g3,g4,g5,_,g6⟩
    · exact .inl ⟨g1,g2,a',c',g3,by simp⟩
    · exact .inr ⟨b',o',cap',cur',e',fz',g1,g2,hS.rob b' g3,g4,g5,by simp,qxg (qx0 l) g6⟩
theorem ob_ints {G : Prop} {l : List Int} {o : Obj} (h : ((true,l.map AV.i) : Bool × List AV) = (true,[.ob o])) : G := by
  simp only [Prod.mk.injEq,true_and] at h
  cases l with
  | nil => simp at h
  | cons x l => simp at h
theorem simv_roF {w w' : World} {phi : Nat → Option Nat} {rows : List (List Int)} {v : Value} (h1 : ∀ r b,(matO rows r).isSome = true → phi r = some b → w.heap.size ≤ b) (h2 : Regs (ctxX w w' phi (matO rows)) (matO rows)) (h3 : SimV (.sl nbase 1 0 rows.length) (ctxX w w' phi (matO rows)) v) : SimV (roF rows) (fresh w w') v := by
  simp only [SimV] at h3 ⊢
  rcases h3.2.2 with ⟨k1,_,k3,k4⟩|⟨b',o,cap,cur,e,k1,k2,k3,k4,k5,k6,k7⟩
  · have : rows = [] := List.eq_nil_of_length_eq_zero k3
    subst this
    exact .inl ⟨rfl,rfl,none,0,by simpa using k4,by simp⟩
  · have ho : o = 0 := by
      rcases k4 with k4|k4
      · exact k4
      · omega
    subst ho
    have hb := h1 nbase b' (by rw [matO,matH_outer]; rfl) k1
    have k3' : w'.heap[b']? = some (.cells cur e (0,0)) := k3
    refine .inr ⟨b',0,cap,cur,e,(0,0),k2,k3',⟨hb,qyc k3'⟩,by simp,k5,fun _ => ⟨hb,rfl,rfl,k6,by omega⟩,?_⟩
    rcases h2 nbase _ (matH_outer _ _ _) with ⟨g1,_⟩|⟨b2,cur2,e2,g1,g2,g3⟩|⟨b2,o2,h0,_⟩
    case inr.inr => cases h0
    · have : phi nbase = some b' := k1
      have g1' : phi nbase = none := g1
      rw [g1'] at this; cases this
    · have g1' : phi nbase = some b2 := g1
      have k1' : phi nbase = some b' := k1
      rw [g1'] at k1'
      cases k1'
      have g2' : w'.heap[b']? = some (.cells cur2 e2 (0,0)) := g2
      rw [k3'] at g2'
      cases g2'
      simp only [SimR,Bool.false_eq_true,if_false] at g3
      rw [List.drop_zero]
      refine SimL.of_get fun j x hj => ?_
      rw [List.getElem?_map,Option.map_eq_some_iff] at hj
      obtain ⟨l,hl,rfl⟩ := hj
      have hjl := (List.getElem?_eq_some_iff.1 hl).1
      have e1 : rows.getD j [] = l := by rw [List.getD_eq_getElem?_getD,hl]; rfl
      obtain ⟨y,m1,m2⟩ := g3.get (rowsC_get (nbase + 1) rows j hjl)
      refine ⟨y,m1,?_⟩
      rw [e1] at m2
      simp only [SimV] at m2 ⊢
      rcases m2.2.2 with ⟨n1,_,n3,n4⟩|⟨b3,o3,cap3,cur3,e3,n1,n2,n3,n4,n5,n6,n7⟩
      · have : l = [] := List.eq_nil_of_length_eq_zero n3
        subst this
        exact .inl ⟨rfl,rfl,none,0,by simpa using n4,by simp⟩
      · have ho3 : o3 = 0 := by
          rcases n4 with n4|n4
          · exact n4
          · omega
        subst ho3
        have hrow := matH_row (r0 := nbase) (b := nbase + 1) (rows := rows) (by omega) hjl
        have hb3 := h1 (nbase + 1 + j) b3 (by rw [matO,hrow]; rfl) n1
        have n3' : w'.heap[b3]? = some (.cells cur3 e3 (0,0)) := n3
        refine .inr ⟨b3,0,cap3,cur3,e3,(0,0),n2,n3',⟨hb3,qyc n3'⟩,by simp,n5,fun _ => ⟨hb3,rfl,rfl,n6,by omega⟩,?_⟩
        rcases h2 _ _ hrow with ⟨g4,_⟩|⟨b4,cur4,e4,g4,g5,g6⟩|⟨b4,o4,h0,_⟩
        case inr.inr => exact ob_ints h0
        · have n1' : phi (nbase + 1 + j) = some b3 := n1
          have g4' : phi (nbase + 1 + j) = none := g4
          rw [g4'] at n1'; cases n1'
        · have g4' : phi (nbase + 1 + j) = some b4 := g4
          have n1' : phi (nbase + 1 + j) = some b3 := n1
          rw [g4'] at n1'
          cases n1'
          have g5' : w'.heap[b3]? = some (.cells cur4 e4 (0,0)) := g5
          rw [n3'] at g5'
          cases g5'
          simp only [SimR,if_true] at g6
          rw [e1] at g6
          rw [List.drop_zero]
          exact qxg (qx0 l) g6
theorem sp_mat2 {f : FuncId} {asx : List AV} {rows : List (List Int)} {x : Value} (h : SpH P f asx (fun _ => none) (.tup [.sl nbase 1 0 rows.length,.v x]) (matO rows)) : Sp P f asx (.tup [roF rows,.v x]) := by
  refine spH_sp h fun w w' phi v h1 h2 h3 => ?_
  rw [SimV] at h3 ⊢
  obtain ⟨a,k1,k2,k3⟩ := h3
  refine ⟨a,k1,k2,?_⟩
  match hl : a.toList with
  | [] => rw [hl] at k3; simp [SimL] at k3
  | [_] => rw [hl] at k3; simp [SimL] at k3
  | u :: v :: rest =>
    rw [hl] at k3
    rw [SimL,SimL] at k3 ⊢
    exact ⟨simv_roF h1 h2 k3.1,by simpa [SimV] using k3.2.1,by simp [SimL]⟩
end Go.Am
namespace Go.Am
variable [Go.Am.CodeBlk]
variable {P : Program} {own : Bool} {N : Nat} {s : AS} {K : AS → Prop} {d : Option Nat}
theorem weak_recell {s : AS} {r : Nat} {c c' : Bool × List AV} (hr : s.hp r = some c) (hne : c.2 ≠ []) (hno : ∀ o,c ≠ (true,[.ob o]))
    (h : ∀ (w0 : World) (mu : Nat → Option Nat) (N : Nat) (tm : Array Value) (w : World) (phi : Nat → Option Nat) (ro : Nat → Prop) (cur : Array Value),Sim w0 mu N s tm w phi ro → SimR c (ctx w0 w ro phi s) cur.toList → SimR c' (ctx w0 w ro phi s) cur.toList) : Weak s (s.mem r c') := by
  intro w0 mu N a w hS
  obtain ⟨hf,phi,ro,hS⟩ := hS
  rcases hS.liv r c hr with ⟨_,h2,_⟩|⟨b,cur,e,h1,h2,h3,h4,h5⟩|⟨b,o,h0,_⟩
  · exact absurd h2 hne
  case inr.inr => exact absurd h0 (hno o)
  · exact ⟨hf,phi,ro,hS.write hr h1 h2 h2 rfl (fun _ _ _ => rfl) rfl rfl rfl (Nat.le_refl _) (h w0 mu N a.tmps w phi ro cur hS h5)⟩
theorem weak_deep {r : Nat} {cs : List AV} (hr : s.hp r = some (true,cs)) (hne : cs ≠ []) (hpl : cs.all plainV = true) : Weak s (s.mem r (false,cs)) := by
  refine weak_recell hr hne (fun o h => by cases h; simp [plainV] at hpl) fun w0 mu N tm w phi ro cur _ h => ?_
  simp only [SimR,if_true,Bool.false_eq_true,if_false] at h ⊢
  exact qxg hpl h
end Go.Am
namespace Go.Am
variable [Go.Am.CodeBlk]
variable {s : AS}
theorem mem_self {r : Nat} {c : Bool × List AV} (hr : s.hp r = some c) : s.mem r c = s := by
  obtain ⟨tm,hp⟩ := s
  simp only [AS.mem,AS.mk.injEq,true_and]
  funext q
  by_cases h : q = r
  · subst h; simp only [if_true]; exact hr.symm
  · simp [h]
theorem weak_shrink (r n : Nat) {cs : List AV} (hr : s.hp r = some (true,cs)) (hpl : cs.all plainV = true) : Weak s (s.mem r (true,cs.take n)) := by
  intro w0 mu N a w hS
  obtain ⟨hf,phi,ro,hS⟩ := hS
  rcases hS.liv r _ hr with ⟨_,h2,_⟩|⟨b,cur,e,h1,h2,h3,h4,h5⟩|⟨b,o,h0,_⟩
  · simp only at h2
    subst h2
    rw [List.take_nil,mem_self hr]
    exact ⟨hf,phi,ro,hS⟩
  · refine ⟨hf,_,ro,hS.write hr h1 h2 h2 rfl (fun _ _ _ => rfl) rfl rfl rfl (Nat.le_refl _) ?_⟩
    simp only [SimR,if_true] at h5 ⊢
    exact h5.take n
  · cases h0
    simp [plainV] at hpl
end Go.Am
namespace Go.Am
variable [Go.Am.CodeBlk]
def Bears (fl : List AV) : Prop := ∀ hp,∀ x ∈ fl,Lend hp x x
theorem lends_bears {fl : List AV} (h : Bears fl) (hp : Hp) {xs ys : List AV} (k : Lends hp xs ys) : Lends hp (fl ++ xs) (fl ++ ys) := by
  induction fl with
  | nil => exact k
  | cons a l ih => exact qz2 (h hp a (by simp)) (ih fun hp x hx => h hp x (by simp [hx]))
theorem lend_fn {hp : Hp} {f : FuncId} {l m : List AV} {k : Nat} (h : Lends hp l m) : Lend hp (.fn f l k) (.fn f m k) := by
  intro w0 mu N tm w phi ro v hS hv
  simp only [SimV] at hv ⊢
  obtain ⟨a,b,h1,h2,h3,h4⟩ := hv
  obtain ⟨h5,h6⟩ := h w0 mu N tm w phi ro (a.toList ++ b.toList) hS h4 (by simpa using h3)
  exact ⟨a,b,h1,h2,by simpa using h6,h5⟩
theorem lend_bears {hp : Hp} {f : FuncId} {fl : List AV} {k : Nat} (h : Bears fl) : Lend hp (.fn f fl k) (.fn f fl k) := by
  have := lends_bears h hp qz4
  simp only [List.append_nil] at this
  exact lend_fn this
section
variable {s : AS}
theorem tm_put_ne' {d t : Nat} {x : AV} (h : t ≠ d) : (s.put (some d) x).tm t = s.tm t := by simp [AS.put,h]
theorem tm_put_none {t : Nat} {x : AV} : (s.put none x).tm t = s.tm t := rfl
theorem tm_mem {r t : Nat} {c : Bool × List AV} : (s.mem r c).tm t = s.tm t := rfl
theorem tm_kill {r t : Nat} : (s.kill r).tm t = killV r (s.tm t) := rfl
theorem tm_mv {r q t : Nat} {c : List AV} : (s.mv r q c).tm t = mvV r q (s.tm t) := rfl
theorem tm_st {l : List (Nat × AV)} {h : List (Nat × (Bool × List AV))} {t : Nat} : (st l h).tm t = (look l t).getD .any := rfl
theorem tm_en0 {a : AV} {l : List AV} : (enter0 (a :: l)).tm 0 = a := rfl
theorem tm_en1 {a b : AV} {l : List AV} : (enter0 (a :: b :: l)).tm 1 = b := rfl
theorem tm_en2 {a b c : AV} {l : List AV} : (enter0 (a :: b :: c :: l)).tm 2 = c := rfl
theorem tm_en3 {a b c d : AV} {l : List AV} : (enter0 (a :: b :: c :: d :: l)).tm 3 = d := rfl
theorem tm_en4 {a b c d e : AV} {l : List AV} : (enter0 (a :: b :: c :: d :: e :: l)).tm 4 = e := rfl
end
section
variable {f : FuncId} {fl : List AV} {k r q : Nat}
theorem kill_fn (h : ∀ r,killL r fl = fl) : killV r (.fn f fl k) = .fn f fl k := by simp only [killV,h]
theorem mv_fn (h : ∀ r,killL r fl = fl) : mvV r q (.fn f fl k) = .fn f fl k := by simp only [mvV,killV,h]
end
structure Asks (P : Program) (f : FuncId) (fl : List AV) (n : Nat) (fits : List Int → Nat → Bool) : Prop where
  call : Callable P f
  bears : Bears fl
  norefs : ∀ keep,refsL keep fl = true
  nokill : ∀ r,killL r fl = fl
  spec : ∀ (M : List Int) (y : Nat),M.length < n → (∀ x ∈ M,0 ≤ x ∧ x < n) → y < n → Sp P f (fl ++ [ints M,.i y]) (.b (fits M y))
theorem asks_lend {s : AS} {fl : List AV} {args : List Opd} {xs ys : List AV} (h : Bears fl) (he : args.map s.ev = xs) (k : Lends s.hp xs ys) : Lends s.hp (fl.take fl.length ++ args.map s.ev ++ fl.drop fl.length) (fl ++ ys) := by
  rw [he,List.take_length,List.drop_length,List.append_nil]
  exact lends_bears h _ k
section
variable {P : Program} {own : Bool} {s : AS} {K : AS → Prop}
theorem m_bsl2d {x y : Opd} {r : Nat} {z : Value} {v w : AV} (hx : s.ev x = v) (hy : s.ev y = w) (hv : cellOk false v = true) (hw : cellOk false w = true) (k : K (((s.kill r).mem r (killR r (false,[v,w]))).put (some r) (.sl r 1 0 2))) : aop1 P own ⟨some r,.bsl 1 2 [z] [(0,x),(1,y)],none⟩ s K :=
  m_bsl (fl := false) (out := [v,w]) (by subst hx; subst hy; exact .inl ⟨rfl,by simp,hv,.inl ⟨rfl,by simp,hw,rfl⟩⟩) k
theorem m_app2d {x y : Opd} {q r q' n bs : Nat} {cs : List AV} {v w : AV} (hx : s.ev x = .sl r 1 0 n) (hp : r < pbase) (hr : s.hp r = some (false,cs)) (hl : cs.length = n) (hy : s.ev y = .sl q' 1 0 2) (hq : s.hp q' = some (false,[v,w])) (hv : cellOk false v = true) (hw : cellOk false w = true)
    (h1 : n ≤ 4194304) (h2 : bs ≤ 64) (k : K ((((s.kill r).kill q).mem q (killR q (killR r (false,cs ++ [v,w])))).put (some q) (.sl q 1 0 (n + 2)))) : aop1 P own ⟨some q,.app 1 bs x y,none⟩ s K := by
  refine m_app (fl := false) (ys := [v,w]) (m := 2) hx hp hr (by omega) ?_ (by simp [hv,hw]) (by show n + 2 ≤ 9223372036854775807; omega) ?_ ?_
  · rw [hy]
    exact Elems.sl q' 0 2 false [v,w] hq (by simp)
  · have := Nat.mul_le_mul (show n + 2 ≤ 4194306 by omega) h2
    omega
  · exact k
def gpush2 (b m q q2 : Nat) : Nat → Nat := fun j => if j < m then b + j else if j = m then q else q2
theorem weak_push2 {s : AS} {l : List (Nat × AV)} {h : List (Nat × (Bool × List AV))} {r0 b : Nat} {rows : List (List Int)} {row row2 : List Int} (f0 : Nat → Nat) (q q2 : Nat)
    (hl : HasF s (nmF b f0 (gpush2 b rows.length q q2)) l) (hh : HasRF s (nmF b f0 (gpush2 b rows.length q q2)) h) (hflat : (h.all fun p => p.2.1) = true) (hk : (r0 :: h.map (·.1)).all (fun r => decide (r < b ∧ f0 r < b)) = true)
    (hpk : (r0 :: h.map (·.1)).all (fun r => decide ((r < pbase ∧ f0 r < pbase) ∨ (pbase ≤ r ∧ f0 r = r))) = true) (hb : b + rows.length + 2 ≤ pbase) (hr : refsT (fun r => (r0 :: h.map (·.1)).contains r) l = true) (hndB : nodupB ((r0 :: h.map (·.1)).map f0) = true)
    (hqb : q < b) (hqn : ((r0 :: h.map (·.1)).map f0).contains q = false) (hqb2 : q2 < b) (hqn2 : ((r0 :: h.map (·.1)).map f0).contains q2 = false) (hqq : q ≠ q2)
    {cs : List AV} (h0 : s.hp (f0 r0) = some (false,cs)) (hcs : cs = rowsC b rows ++ [.sl q 1 0 row.length,.sl q2 1 0 row2.length]) (hq : s.hp q = some (true,row.map AV.i)) (hq2 : s.hp q2 = some (true,row2.map AV.i))
    (hrow : ∀ j,j < rows.length → s.hp (b + j) = some (true,(rows.getD j []).map AV.i)) : Weak s (stM l h r0 b (rows ++ [row] ++ [row2])) := by
  have hlen : (rows ++ [row] ++ [row2]).length = rows.length + 2 := by simp
  have hlen1 : (rows ++ [row]).length = rows.length + 1 := by simp
  refine weak_mat f0 (gpush2 b rows.length q q2) hl hh hflat hk hpk (fun j hj => .inl ⟨by omega,by unfold gpush2; split <;> (try split) <;> omega⟩) hr ⟨false,cs,h0,.inl ⟨rfl,?_⟩⟩ (fun j hj => ?_) hndB (fun j hj r hr => ?_) (fun j j' h1 h2 e => ?_)
  · rw [hcs,rowsC_snoc,rowsC_snoc,renL_append,renL_append,rowsC_ren _ b b]
    · simp only [renL,renV,hlen1,List.append_assoc,List.cons_append,List.nil_append]
      unfold nmF gpush2
      rw [if_neg (by omega),Nat.add_sub_cancel_left,if_neg (by omega),if_pos rfl,if_neg (by omega),Nat.add_sub_cancel_left,if_neg (by omega),if_neg (by omega)]
    · intro j hj
      unfold nmF gpush2
      rw [if_neg (by omega),Nat.add_sub_cancel_left,if_pos hj]
  · unfold gpush2
    by_cases hj' : j < rows.length
    · rw [if_pos hj',hrow j hj']
      simp [List.getElem?_append,hj']
    · by_cases hj2 : j = rows.length
      · subst hj2
        rw [if_neg hj',if_pos rfl,hq]
        simp
      · have : j = rows.length + 1 := by omega
        subst this
        rw [if_neg hj',if_neg hj2,hq2]
        simp
  · have := of_decide_eq_true (List.all_eq_true.1 hk r hr)
    have hm : f0 r ∈ (r0 :: h.map (·.1)).map f0 := List.mem_map.2 ⟨r,hr,rfl⟩
    unfold gpush2
    split
    · omega
    · split
      · intro e
        rw [e] at hm
        rw [List.contains_iff_mem.2 hm] at hqn; cases hqn
      · intro e
        rw [e] at hm
        rw [List.contains_iff_mem.2 hm] at hqn2; cases hqn2
  · unfold gpush2 at e
    (repeat' split at e) <;> omega
end
/- Boards asx texts. -/
def sgn (b : Bool) : UInt8 := if b then 35 else 46
def rowT (fb : Nat → Nat → Bool) (i k : Nat) : List UInt8 := (List.range k).map fun j => sgn (fb i j)
def bdT (fb : Nat → Nat → Bool) (n : Nat) : Nat → List UInt8
  | 0 => []
  | k + 1 => bdT fb n k ++ (if 0 < k then [47] else []) ++ rowT fb k n
theorem rowT_len (fb : Nat → Nat → Bool) (i k : Nat) : (rowT fb i k).length = k := by simp [rowT]
theorem rowT_snoc (fb : Nat → Nat → Bool) (i k : Nat) : rowT fb i (k + 1) = rowT fb i k ++ [sgn (fb i k)] := by simp [rowT,List.range_succ]
theorem bdT_len (fb : Nat → Nat → Bool) (n k : Nat) : (bdT fb n k).length ≤ k * (n + 1) := by
  induction k with
  | zero => simp [bdT]
  | succ k ih =>
    simp only [bdT,List.length_append,rowT_len]
    have : (if 0 < k then [(47 : UInt8)] else []).length ≤ 1 := by split <;> simp
    rw [Nat.add_mul,Nat.one_mul]
    omega
theorem getD_memL {α : Type} {l : List α} {d : α} {m : Nat} (h : m < l.length) : l.getD m d ∈ l := by
  have : l.getD m d = l[m] := by simp [h]
  rw [this]
  exact List.getElem_mem h
def inB (ps : List (List Int)) (i j : Nat) : Bool := ps.any fun p => decide (p.getD 0 0 = (i : Int)) && decide (p.getD 1 0 = (j : Int))
theorem any_take_snoc {α : Type} (l : List α) (p : α → Bool) (d : α) (m : Nat) (h : m < l.length) : (l.take (m + 1)).any p = ((l.take m).any p || p (l.getD m d)) := by
  rw [qw2 l m d h,List.any_append]
  simp
end Go.Am
namespace Go.Am
variable [Go.Am.CodeBlk]
def splitNB : Nat → List UInt8 → List (List UInt8)
  | 0,B => [B]
  | k + 1,B => if (47 : UInt8) ∈ B then B.takeWhile (· != 47) :: splitNB k (B.drop ((B.takeWhile (· != 47)).length + 1)) else [B]
def splitB (B : List UInt8) : List (List UInt8) := splitNB (B.count 47) B
def joinB : List (List UInt8) → List UInt8
  | [] => []
  | r :: rs => r ++ rs.flatMap fun x => 47 :: x
theorem takeWhile_cut {p q : List UInt8} (h : (47 : UInt8) ∉ p) : (p ++ 47 :: q).takeWhile (· != 47) = p := by
  induction p with
  | nil => simp
  | cons a p ih =>
    have h1 : a ≠ 47 := fun e => h (by simp [e])
    simp [h1,ih (fun hh => h (by simp [hh]))]
theorem splitNB_cut {p q : List UInt8} (h : (47 : UInt8) ∉ p) (k : Nat) : splitNB (k + 1) (p ++ 47 :: q) = p :: splitNB k q := by
  rw [splitNB,if_pos (by simp),takeWhile_cut h]
  congr 2
  rw [List.drop_append,List.drop_of_length_le (by omega)]
  simp
theorem splitNB_one {B : List UInt8} (h : (47 : UInt8) ∉ B) (k : Nat) : splitNB k B = [B] := by
  cases k with
  | zero => rfl
  | succ k => rw [splitNB,if_neg h]
theorem cut_at {B : List UInt8} (h : (47 : UInt8) ∈ B) : ∃ p q,(47 : UInt8) ∉ p ∧ B = p ++ 47 :: q := by
  induction B with
  | nil => simp at h
  | cons a B ih =>
    by_cases ha : a = 47
    · exact ⟨[],B,by simp,by simp [ha]⟩
    · have hm : (47 : UInt8) ∈ B := by
        rcases List.mem_cons.1 h with e|e
        · exact absurd e.symm ha
        · exact e
      obtain ⟨p,q,h1,h2⟩ := ih hm
      exact ⟨a :: p,q,by simp [h1]; exact fun e => ha e.symm,by simp [h2]⟩
theorem count_cut {p q : List UInt8} (h : (47 : UInt8) ∉ p) : (p ++ 47 :: q).count 47 = q.count 47 + 1 := by
  rw [List.count_append,List.count_eq_zero.2 h,List.count_cons_self]
  omega
theorem splitB_cut {p q : List UInt8} (h : (47 : UInt8) ∉ p) : splitB (p ++ 47 :: q) = p :: splitB q := by
  unfold splitB
  rw [count_cut h,splitNB_cut h]
theorem splitB_one {B : List UInt8} (h : (47 : UInt8) ∉ B) : splitB B = [B] := splitNB_one h _
theorem splitNB_len : ∀ (k : Nat) (B : List UInt8),(splitNB k B).length = min k (B.count 47) + 1
  | 0,B => by simp [splitNB]
  | k + 1,B => by
    by_cases h : (47 : UInt8) ∈ B
    · obtain ⟨p,q,h1,rfl⟩ := cut_at h
      rw [splitNB_cut h1,List.length_cons,splitNB_len k q,count_cut h1]
      omega
    · rw [splitNB_one h,List.count_eq_zero.2 h]
      simp
theorem splitNB_all : ∀ (k : Nat) (B : List UInt8),B.count 47 ≤ k → splitNB k B = splitB B
  | k,B,hk => by
    by_cases h : (47 : UInt8) ∈ B
    · obtain ⟨p,q,h1,rfl⟩ := cut_at h
      rw [count_cut h1] at hk
      cases k with
      | zero => omega
      | succ k => rw [splitNB_cut h1,splitB_cut h1,splitNB_all k q (by omega)]
    · rw [splitNB_one h,splitB_one h]
theorem qv4 (B : List UInt8) : (splitB B).length = B.count 47 + 1 := by
  unfold splitB
  rw [splitNB_len]
  omega
theorem splitNB_ne (k : Nat) (B : List UInt8) : splitNB k B ≠ [] := fun h => by
  have := splitNB_len k B
  rw [h] at this
  simp at this
theorem joinB_cons {r : List UInt8} {rs : List (List UInt8)} (h : rs ≠ []) : joinB (r :: rs) = r ++ 47 :: joinB rs := by
  cases rs with
  | nil => exact absurd rfl h
  | cons a l => simp [joinB]
theorem joinB_split : ∀ (k : Nat) (B : List UInt8),joinB (splitNB k B) = B
  | 0,B => by simp [splitNB,joinB]
  | k + 1,B => by
    by_cases h : (47 : UInt8) ∈ B
    · obtain ⟨p,q,h1,rfl⟩ := cut_at h
      rw [splitNB_cut h1,joinB_cons (splitNB_ne k q),joinB_split k q]
    · rw [splitNB_one h]
      simp [joinB]
theorem joinB_snoc (l : List (List UInt8)) (x : List UInt8) : joinB (l ++ [x]) = joinB l ++ (if 0 < l.length then [47] else []) ++ x := by
  cases l with
  | nil => simp [joinB]
  | cons r rs => simp [joinB]
def GoodBd (B : List UInt8) : Prop := B.count 47 ≤ 7 ∧ ∀ r ∈ splitB B,r.length = B.count 47 + 1 ∧ ∀ c ∈ r,c = 46 ∨ c = 35
instance (B : List UInt8) : Decidable (GoodBd B) := inferInstanceAs (Decidable (_ ∧ _))
def sdB (B : List UInt8) : Nat := B.count 47 + 1
def fbB (B : List UInt8) (i j : Nat) : Bool := decide (((splitB B).getD i []).getD j 0 = 35)
theorem getD_get {α : Type} {l : List α} {d : α} {j : Nat} (h : j < l.length) : l.getD j d = l[j] := by simp [h]
theorem good_row {B : List UInt8} (h : GoodBd B) {i : Nat} (hi : i < sdB B) : (splitB B).getD i [] = rowT (fbB B) i (sdB B) := by
  have hl := qv4 B
  have hm : (splitB B).getD i [] ∈ splitB B := getD_memL (by unfold sdB at hi; omega)
  obtain ⟨h1,h2⟩ := h.2 _ hm
  apply List.ext_getElem
  · rw [h1,rowT_len]; rfl
  · intro j hj1 hj2
    have hc := h2 _ (List.getElem_mem hj1)
    have hg : ((splitB B).getD i []).getD j 0 = ((splitB B).getD i [])[j] := getD_get hj1
    simp only [rowT,List.getElem_map,List.getElem_range,fbB,hg]
    rcases hc with hc|hc
    · rw [hc]; rfl
    · rw [hc]; rfl
theorem join_take {B : List UInt8} (h : GoodBd B) : ∀ k,k ≤ sdB B → joinB ((splitB B).take k) = bdT (fbB B) (sdB B) k
  | 0,_ => by simp [joinB,bdT]
  | k + 1,hk => by
    have hl := qv4 B
    rw [qw2 (splitB B) k [] (by unfold sdB at hk; omega),joinB_snoc,join_take h k (by omega),good_row h (by omega),List.length_take_of_le (by unfold sdB at hk; omega)]
    rfl
theorem good_text {B : List UInt8} (h : GoodBd B) : B = bdT (fbB B) (sdB B) (sdB B) := by
  have hl := qv4 B
  have := join_take h (sdB B) (Nat.le_refl _)
  rw [List.take_of_length_le (by unfold sdB; omega)] at this
  rw [← this]
  exact (joinB_split _ B).symm
theorem bdT_len2 (fb : Nat → Nat → Bool) (n : Nat) : ∀ k,(bdT fb n k).length = k * (n + 1) - 1
  | 0 => by simp [bdT]
  | k + 1 => by
    simp only [bdT,List.length_append,rowT_len,bdT_len2 fb n k]
    rcases Nat.eq_zero_or_pos k with h|h
    · subst h; simp
    · rw [if_pos h,Nat.add_mul]
      have : 1 ≤ k * (n + 1) := Nat.mul_pos h (by omega)
      simp
      omega
theorem getD_app_l {α : Type} {a b : List α} {d : α} {i : Nat} (h : i < a.length) : (a ++ b).getD i d = a.getD i d := by
  rw [getD_get (show i < (a ++ b).length by rw [List.length_append]; omega),getD_get h,List.getElem_append_left h]
theorem getD_app_r {α : Type} {a b : List α} {d : α} {i : Nat} (h : a.length ≤ i) : (a ++ b).getD i d = b.getD (i - a.length) d := by
  simp [List.getElem?_append,Nat.not_lt.2 h]
theorem bdT_at (fb : Nat → Nat → Bool) (n : Nat) : ∀ k i j,i < k → j < n → (bdT fb n k).getD (i * (n + 1) + j) 0 = sgn (fb i j)
  | 0,i,j,hi,_ => by omega
  | k + 1,i,j,hi,hj => by
    have hl := bdT_len2 fb n k
    by_cases hik : i < k
    · have h1 : i * (n + 1) + j < (bdT fb n k).length := by
        have : (i + 1) * (n + 1) ≤ k * (n + 1) := Nat.mul_le_mul_right _ hik
        rw [Nat.add_mul] at this
        omega
      simp only [bdT]
      rw [List.append_assoc,getD_app_l h1]
      exact bdT_at fb n k i j hik hj
    · obtain rfl : i = k := by omega
      have hp : (bdT fb n i ++ (if 0 < i then [47] else [])).length = i * (n + 1) := by
        rw [List.length_append,hl]
        rcases Nat.eq_zero_or_pos i with h|h
        · subst h; simp
        · have : 1 ≤ i * (n + 1) := Nat.mul_pos h (by omega)
          rw [if_pos h]; simp; omega
      simp only [bdT]
      rw [getD_app_r (by omega),hp,Nat.add_sub_cancel_left]
      simp [rowT,hj]
theorem good_at {B : List UInt8} (h : GoodBd B) {i j : Nat} (hi : i < sdB B) (hj : j < sdB B) : B.getD (i * (sdB B + 1) + j) 0 = sgn (fbB B i j) := by
  have h1 := bdT_at (fbB B) (sdB B) (sdB B) i j hi hj
  rw [← good_text h] at h1
  exact h1
theorem good_len {B : List UInt8} (h : GoodBd B) : B.length = sdB B * (sdB B + 1) - 1 := by
  have h1 := bdT_len2 (fbB B) (sdB B) (sdB B)
  rw [← good_text h] at h1
  exact h1
theorem qx5 {B : List UInt8} (h : GoodBd B) : 1 ≤ sdB B ∧ sdB B ≤ 8 := ⟨by unfold sdB; omega,by have := h.1; unfold sdB; omega⟩
theorem good_len72 {B : List UInt8} (h : GoodBd B) : B.length ≤ 71 := by
  have h1 := good_len h
  have h2 := qx5 h
  have : sdB B * (sdB B + 1) ≤ 8 * 9 := Nat.mul_le_mul h2.2 (by omega)
  omega
theorem indexByte_cut {p q : List UInt8} (h : (47 : UInt8) ∉ p) : Lib.indexByte (p ++ 47 :: q) 47 = p.length := by
  induction p with
  | nil => simp [Lib.indexByte]
  | cons a p ih =>
    have h1 : (a == 47) = false := by
      rw [beq_eq_false_iff_ne]
      exact fun e => h (by simp [e])
    have h2 := ih (fun hh => h (by simp [hh]))
    rw [List.cons_append,Lib.indexByte,h1,h2]
    have : ((p.length : Int) == -1) = false := by
      rw [beq_eq_false_iff_ne]; omega
    simp [this]
theorem indexByte_none {B : List UInt8} (h : (47 : UInt8) ∉ B) : Lib.indexByte B 47 = -1 := by
  induction B with
  | nil => rfl
  | cons a p ih =>
    have h1 : (a == 47) = false := by
      rw [beq_eq_false_iff_ne]
      exact fun e => h (by simp [e])
    rw [Lib.indexByte,h1,ih (fun hh => h (by simp [hh]))]
    rfl
/- The forbidden places asx a map's entries. -/
def keyP (a b : Int) : Value := .agg #[.int .i64 a,.int .i64 b]
theorem keyP_inj {a b c d : Int} (h : keyP a b = keyP c d) : a = c ∧ b = d := by
  simp only [keyP,Value.agg.injEq,Array.mk.injEq,List.cons.injEq,Value.int.injEq,true_and,and_true] at h
  exact h
def entP (p : Nat × Nat) (born : Nat) : MapEntry := { key := keyP p.1 p.2,val := .bool true,born }
def mkEsL : Nat → List (Nat × Nat) → List MapEntry
  | _,[] => []
  | c,p :: l => entP p c :: mkEsL (c + 1) l
def mkEs (l : List (Nat × Nat)) : Array MapEntry := (mkEsL 0 l).toArray
theorem mkEsL_snoc (l : List (Nat × Nat)) (p : Nat × Nat) : ∀ c,mkEsL c (l ++ [p]) = mkEsL c l ++ [entP p (c + l.length)] := by
  induction l with
  | nil => intro c; simp [mkEsL]
  | cons a l ih => intro c; rw [List.cons_append,mkEsL,mkEsL,ih,List.length_cons,show c + 1 + l.length = c + (l.length + 1) by omega]; rfl
theorem mkEs_push (l : List (Nat × Nat)) (p : Nat × Nat) : (mkEs l).push { key := keyP p.1 p.2,val := .bool true,born := l.length } = mkEs (l ++ [p]) := by
  unfold mkEs
  rw [mkEsL_snoc,Nat.zero_add]
  simp [entP]
theorem mem_mkEsL {l : List (Nat × Nat)} {e : MapEntry} : ∀ {c},e ∈ mkEsL c l → ∃ p ∈ l,e.key = keyP p.1 p.2 ∧ e.val = .bool true := by
  induction l with
  | nil => intro c h; simp [mkEsL] at h
  | cons a l ih =>
    intro c h
    simp only [mkEsL,List.mem_cons] at h
    rcases h with rfl|h
    · exact ⟨a,by simp,rfl,rfl⟩
    · obtain ⟨p,h1,h2⟩ := ih h
      exact ⟨p,by simp [h1],h2⟩
theorem mem_mkEs {l : List (Nat × Nat)} {e : MapEntry} (h : e ∈ (mkEs l).toList) : ∃ p ∈ l,e.key = keyP p.1 p.2 ∧ e.val = .bool true := mem_mkEsL (c := 0) (by simpa [mkEs] using h)
theorem has_mkEsL {l : List (Nat × Nat)} {p : Nat × Nat} (h : p ∈ l) : ∀ c,∃ e ∈ mkEsL c l,e.key = keyP p.1 p.2 := by
  induction l with
  | nil => simp at h
  | cons a l ih =>
    intro c
    rcases List.mem_cons.1 h with rfl|h
    · exact ⟨entP p c,by simp [mkEsL],rfl⟩
    · obtain ⟨e,h1,h2⟩ := ih h (c + 1)
      exact ⟨e,by simp [mkEsL,h1],h2⟩
theorem has_mkEs {l : List (Nat × Nat)} {p : Nat × Nat} (h : p ∈ l) : ∃ e ∈ (mkEs l).toList,e.key = keyP p.1 p.2 := by
  obtain ⟨e,h1,h2⟩ := has_mkEsL h 0
  exact ⟨e,by simpa [mkEs] using h1,h2⟩
def hasP (l : List (Nat × Nat)) (a b : Int) : Bool := l.any fun p => decide ((p.1 : Int) = a) && decide ((p.2 : Int) = b)
def rowP (fb : Nat → Nat → Bool) (i k : Nat) : List (Nat × Nat) := ((List.range k).filter fun j => fb i j).map fun j => (i,j)
def posP (fb : Nat → Nat → Bool) (n : Nat) : Nat → List (Nat × Nat)
  | 0 => []
  | k + 1 => posP fb n k ++ rowP fb k n
theorem rowP_snoc (fb : Nat → Nat → Bool) (i k : Nat) : rowP fb i (k + 1) = rowP fb i k ++ (if fb i k then [(i,k)] else []) := by
  simp only [rowP,List.range_succ,List.filter_append,List.map_append,List.filter_cons,List.filter_nil]
  split <;> simp
theorem mem_rowP {fb : Nat → Nat → Bool} {i k : Nat} {p : Nat × Nat} : p ∈ rowP fb i k ↔ p.1 = i ∧ p.2 < k ∧ fb i p.2 = true := by
  simp only [rowP,List.mem_map,List.mem_filter,List.mem_range]
  constructor
  · rintro ⟨j,⟨h1,h2⟩,rfl⟩; exact ⟨rfl,h1,h2⟩
  · rintro ⟨h1,h2,h3⟩; exact ⟨p.2,⟨h2,h3⟩,by rw [← h1]⟩
theorem mem_posP {fb : Nat → Nat → Bool} {n : Nat} {p : Nat × Nat} : ∀ {k},p ∈ posP fb n k ↔ p.1 < k ∧ p.2 < n ∧ fb p.1 p.2 = true
  | 0 => by simp [posP]
  | k + 1 => by
    simp only [posP,List.mem_append,mem_posP (k := k),mem_rowP]
    constructor
    · rintro (⟨h1,h2,h3⟩|⟨h1,h2,h3⟩)
      · exact ⟨by omega,h2,h3⟩
      · exact ⟨by omega,h2,by rw [h1]; exact h3⟩
    · rintro ⟨h1,h2,h3⟩
      by_cases h : p.1 = k
      · exact .inr ⟨h,h2,by rw [← h]; exact h3⟩
      · exact .inl ⟨by omega,h2,h3⟩
theorem hasP_pos (fb : Nat → Nat → Bool) (n : Nat) (a b : Int) : hasP (posP fb n n) a b = (decide (0 ≤ a ∧ a < n ∧ 0 ≤ b ∧ b < n) && fb a.toNat b.toNat) := by
  rw [Bool.eq_iff_iff]
  simp only [hasP,List.any_eq_true,Bool.and_eq_true,decide_eq_true_eq]
  constructor
  · rintro ⟨p,hp,h1,h2⟩
    obtain ⟨h3,h4,h5⟩ := mem_posP.1 hp
    subst h1; subst h2
    exact ⟨⟨by omega,by omega,by omega,by omega⟩,by simpa using h5⟩
  · rintro ⟨⟨h1,h2,h3,h4⟩,h5⟩
    refine ⟨(a.toNat,b.toNat),mem_posP.2 ⟨by show a.toNat < n; omega,by show b.toNat < n; omega,h5⟩,?_,?_⟩
    · show ((a.toNat : Nat) : Int) = a; omega
    · show ((b.toNat : Nat) : Int) = b; omega
end Go.Am
namespace Go.Am
variable [Go.Am.CodeBlk]
def sumN : Nat → (Nat → Nat) → Nat
  | 0,_ => 0
  | k + 1,f => sumN k f + f k
theorem qx1 {f g : Nat → Nat} : ∀ {n : Nat},(∀ c,c < n → f c = g c) → sumN n f = sumN n g
  | 0,_ => rfl
  | n + 1,h => by rw [sumN,sumN,qx1 fun c hc => h c (by omega),h n (by omega)]
theorem sumN_add (f g : Nat → Nat) : ∀ n : Nat,sumN n (fun c => f c + g c) = sumN n f + sumN n g
  | 0 => rfl
  | n + 1 => by simp only [sumN]; rw [sumN_add f g n]; omega
theorem qv3 : ∀ n : Nat,sumN n (fun _ => 0) = 0
  | 0 => rfl
  | n + 1 => by simp only [sumN]; rw [qv3 n]
theorem sumN_comm (h : Nat → Nat → Nat) (m : Nat) : ∀ n : Nat,sumN n (fun a => sumN m (fun b => h a b)) = sumN m (fun b => sumN n (fun a => h a b))
  | 0 => by simp only [sumN]; rw [qv3]
  | n + 1 => by simp only [sumN]; rw [sumN_comm h m n,← sumN_add]
theorem quf {f g : Nat → Nat} : ∀ {n : Nat},(∀ c,c < n → f c ≤ g c) → sumN n f ≤ sumN n g
  | 0,_ => Nat.le_refl _
  | n + 1,h => Nat.add_le_add (quf fun c hc => h c (by omega)) (h n (by omega))
theorem qv1 (c : Nat) : ∀ n : Nat,sumN n (fun _ => c) = n * c
  | 0 => by simp [sumN]
  | n + 1 => by simp only [sumN]; rw [qv1 c n,Nat.succ_mul]
def insC (T c : Nat) : Nat := T ||| 1 <<< c
theorem qu1 (T c k : Nat) : (insC T c).testBit k = (T.testBit k || decide (c = k)) := by
  unfold insC
  rw [Nat.testBit_or,Nat.one_shiftLeft,Nat.testBit_two_pow]
theorem insC_comm (T c d : Nat) : insC (insC T c) d = insC (insC T d) c := by
  apply Nat.eq_of_testBit_eq
  intro k
  simp only [qu1,Bool.or_assoc]
  congr 1
  rw [Bool.or_comm]
theorem insC_lt {T c n : Nat} (hT : T < 2 ^ n) (hc : c < n) : insC T c < 2 ^ n := by
  unfold insC
  refine Nat.or_lt_two_pow hT ?_
  rw [Nat.one_shiftLeft]
  exact Nat.pow_lt_pow_right (by omega) hc
def addC (row : Nat → Bool) (g : Nat → Nat) (T c : Nat) : Nat := if row c && !T.testBit c then g (insC T c) else 0
def stepR (n : Nat) (row : Nat → Bool) (g : Nat → Nat) (T : Nat) : Nat := g T + sumN n (addC row g T)
theorem stepR_comm (n : Nat) (r s : Nat → Bool) (g : Nat → Nat) (T : Nat) : stepR n r (stepR n s g) T = stepR n s (stepR n r g) T := by
  have key : ∀ r s : Nat → Bool,stepR n r (stepR n s g) T = g T + sumN n (addC s g T) + sumN n (addC r g T) + sumN n (fun c => sumN n (fun d => if (r c && !T.testBit c) && (s d && !(insC T c).testBit d) then g (insC (insC T c) d) else 0)) := by
    intro r s
    have : ∀ c,addC r (stepR n s g) T c = addC r g T c + sumN n (fun d => if (r c && !T.testBit c) && (s d && !(insC T c).testBit d) then g (insC (insC T c) d) else 0) := by
      intro c
      unfold addC stepR
      cases hb : (r c && !T.testBit c)
      · simp [qv3]
      · simp only [if_true,Bool.true_and]
        rfl
    rw [stepR,qx1 fun c _ => this c,sumN_add,stepR]
    omega
  rw [key r s,key s r,sumN_comm]
  have : ∀ b,b < n → ∀ a,a < n → (if (r a && !T.testBit a) && (s b && !(insC T a).testBit b) then g (insC (insC T a) b) else 0) = (if (s b && !T.testBit b) && (r a && !(insC T b).testBit a) then g (insC (insC T b) a) else 0) := by
    intro b _ a _
    rw [insC_comm T a b,qu1,qu1]
    by_cases hab : a = b
    · subst hab; simp
    · have hba : ¬ b = a := fun e => hab e.symm
      simp only [hab,hba,decide_false,Bool.or_false]
      congr 2
      cases r a <;> cases s b <;> cases T.testBit a <;> cases T.testBit b <;> rfl
  have h2 : sumN n (fun b => sumN n (fun a => if (r a && !T.testBit a) && (s b && !(insC T a).testBit b) then g (insC (insC T a) b) else 0)) = sumN n (fun c => sumN n (fun d => if (s c && !T.testBit c) && (r d && !(insC T c).testBit d) then g (insC (insC T c) d) else 0)) :=
    qx1 fun b hb => qx1 fun a ha => this b hb a ha
  rw [h2]
  omega
theorem stepR_none {n : Nat} {row : Nat → Bool} (h : ∀ c,c < n → row c = false) (g : Nat → Nat) (T : Nat) : stepR n row g T = g T := by
  rw [stepR,qx1 (g := fun _ => 0) fun c hc => by simp [addC,h c hc],qv3]
  rfl
def rowsR (fb : Nat → Nat → Bool) (n : Nat) : List Nat → (Nat → Nat) → Nat → Nat
  | [],g => g
  | r :: l,g => stepR n (fb r) (rowsR fb n l g)
theorem rowsR_snoc (fb : Nat → Nat → Bool) (n r : Nat) (g : Nat → Nat) : ∀ l : List Nat,rowsR fb n (l ++ [r]) g = rowsR fb n l (stepR n (fb r) g)
  | [] => rfl
  | a :: l => by simp only [List.cons_append,rowsR]; rw [rowsR_snoc fb n r g l]
theorem rowsR_perm {fb : Nat → Nat → Bool} {n : Nat} {l m : List Nat} (h : l.Perm m) (g : Nat → Nat) : rowsR fb n l g = rowsR fb n m g := by
  induction h with
  | nil => rfl
  | cons a _ ih => simp only [rowsR,ih]
  | swap a b l => funext T; exact stepR_comm n (fb b) (fb a) _ T
  | trans _ _ ih1 ih2 => rw [ih1,ih2]
theorem rowsR_filter {fb : Nat → Nat → Bool} {n : Nat} (p : Nat → Bool) : ∀ (l : List Nat),(∀ r ∈ l,p r = false → ∀ c,c < n → fb r c = false) → ∀ g : Nat → Nat,rowsR fb n (l.filter p) g = rowsR fb n l g
  | [],_,_ => rfl
  | r :: l,h,g => by
    have ih := rowsR_filter p l (fun r hr => h r (by simp [hr])) g
    rw [List.filter_cons]
    cases hp : p r
    · simp only [Bool.false_eq_true,if_false,rowsR]
      rw [ih]
      funext T
      exact (stepR_none (h r (by simp) hp) _ T).symm
    · simp only [if_true,rowsR,ih]
theorem rowsR_any {fb : Nat → Nat → Bool} {n : Nat} {l : List Nat} (hn : l.Nodup) (hl : ∀ r ∈ l,r < n) (hall : ∀ r,r < n → r ∉ l → ∀ c,c < n → fb r c = false) (g : Nat → Nat) : rowsR fb n l g = rowsR fb n (List.range n) g := by
  have hp : l.Perm ((List.range n).filter fun r => decide (r ∈ l)) := by
    refine (List.perm_ext_iff_of_nodup hn (List.nodup_range.filter _)).2 fun a => ?_
    simp only [List.mem_filter,List.mem_range,decide_eq_true_eq]
    exact ⟨fun h => ⟨hl a h,h⟩,fun h => h.2⟩
  rw [rowsR_perm hp]
  exact rowsR_filter _ _ (fun r hr hp c hc => hall r (List.mem_range.1 hr) (by simpa using hp) c hc) g
theorem stepR_le {n : Nat} {row : Nat → Bool} {g : Nat → Nat} {b : Nat} (h : ∀ T,g T ≤ b) (T : Nat) : stepR n row g T ≤ (n + 1) * b := by
  have h1 : sumN n (addC row g T) ≤ n * b := by
    rw [← qv1]
    refine quf fun c _ => ?_
    unfold addC
    split
    · exact h _
    · omega
  have := h T
  rw [stepR,Nat.succ_mul]
  omega
theorem rowsR_le {fb : Nat → Nat → Bool} {n : Nat} {g : Nat → Nat} {b : Nat} (h : ∀ T,g T ≤ b) : ∀ (l : List Nat) (T : Nat),rowsR fb n l g T ≤ (n + 1) ^ l.length * b
  | [],T => by simpa [rowsR] using h T
  | r :: l,T => by
    have := stepR_le (n := n) (row := fb r) (rowsR_le (fb := fb) (n := n) h l) T
    rw [List.length_cons,Nat.pow_succ,Nat.mul_comm _ (n + 1),Nat.mul_assoc]
    exact this
def pop16 (T : Nat) : Nat := sumN 16 fun k => if T.testBit k then 1 else 0
theorem pop_ins {T c : Nat} (hc : c < 16) (h : T.testBit c = false) : pop16 (insC T c) = pop16 T + 1 := by
  have key : ∀ m,sumN m (fun k => if (insC T c).testBit k then 1 else 0) = sumN m (fun k => if T.testBit k then 1 else 0) + (if c < m then 1 else 0) := by
    intro m
    induction m with
    | zero => simp [sumN]
    | succ m ih =>
      simp only [sumN]
      rw [ih,qu1]
      by_cases hm : c = m
      · subst hm; simp [h]
      · by_cases h1 : c < m
        · simp [hm,h1,show c < m + 1 by omega]; omega
        · simp [hm,h1,show ¬ c < m + 1 by omega]
  have := key 16
  unfold pop16
  rw [this,if_pos hc]
def rkG (fb : Nat → Nat → Bool) (n : Nat) : Nat → Nat → Nat → Nat
  | 0,_,k => if k = 0 then 1 else 0
  | m + 1,S,k => rkG fb n m S k + sumN n fun j => if fb (n - (m + 1)) j && !S.testBit j then (match k with|0 => 0|q + 1 => rkG fb n m (insC S j) q) else 0
def lastR (n : Nat) : Nat → List Nat
  | 0 => []
  | m + 1 => (n - (m + 1)) :: lastR n m
theorem lastR_range (n : Nat) : ∀ m,m ≤ n → lastR n m = List.range' (n - m) m
  | 0,_ => rfl
  | m + 1,h => by rw [lastR,lastR_range n m (by omega),List.range'_succ,show n - (m + 1) + 1 = n - m by omega]
theorem lastR_all (n : Nat) : lastR n n = List.range n := by rw [lastR_range n n (Nat.le_refl _),Nat.sub_self,List.range_eq_range']
def popIs (q T : Nat) : Nat := if pop16 T = q then 1 else 0
theorem rowsR_small {fb : Nat → Nat → Bool} {n q : Nat} (hn : n ≤ 16) : ∀ (l : List Nat) (S : Nat),q < pop16 S → rowsR fb n l (popIs q) S = 0
  | [],S,h => by simp [rowsR,popIs,show pop16 S ≠ q by omega]
  | r :: l,S,h => by
    rw [rowsR,stepR,rowsR_small hn l S h,qx1 (g := fun _ => 0) fun c hc => ?_,qv3]
    unfold addC
    split
    · rename_i hb
      simp only [Bool.and_eq_true,Bool.not_eq_true'] at hb
      exact rowsR_small hn l _ (by rw [pop_ins (by omega) hb.2]; omega)
    · rfl
theorem rkG_rows {fb : Nat → Nat → Bool} {n : Nat} (hn : n ≤ 16) : ∀ (m S k : Nat),rkG fb n m S k = rowsR fb n (lastR n m) (popIs (k + pop16 S)) S
  | 0,S,k => by
    simp only [rkG,lastR,rowsR,popIs]
    by_cases h : k = 0
    · simp [h]
    · rw [if_neg h,if_neg (by omega)]
  | m + 1,S,k => by
    rw [rkG,lastR,rowsR,stepR,← rkG_rows hn m S k]
    congr 1
    refine qx1 fun j hj => ?_
    unfold addC
    split
    · rename_i hb
      simp only [Bool.and_eq_true,Bool.not_eq_true'] at hb
      have hp := pop_ins (show j < 16 by omega) hb.2
      cases k with
      | zero => exact (rowsR_small hn _ _ (by rw [hp]; omega)).symm
      | succ q =>
        show rkG fb n m (insC S j) q = _
        rw [rkG_rows hn m (insC S j) q,hp,show q + (pop16 S + 1) = q + 1 + pop16 S by omega]
    · rfl
theorem rkG_big {fb : Nat → Nat → Bool} {n : Nat} : ∀ (m S k : Nat),m < k → rkG fb n m S k = 0
  | 0,S,k,h => by rw [rkG,if_neg (by omega)]
  | m + 1,S,k,h => by
    rw [rkG,rkG_big m S k (by omega),qx1 (g := fun _ => 0) fun j _ => ?_,qv3]
    split
    · cases k with
      | zero => rfl
      | succ q => exact rkG_big m _ q (by omega)
    · rfl
theorem rkG_le {fb : Nat → Nat → Bool} {n : Nat} : ∀ (m S k : Nat),rkG fb n m S k ≤ (n + 1) ^ m
  | 0,S,k => by rw [rkG]; split <;> simp
  | m + 1,S,k => by
    have h1 : sumN n (fun j => if fb (n - (m + 1)) j && !S.testBit j then (match k with|0 => 0|q + 1 => rkG fb n m (insC S j) q) else 0) ≤ n * (n + 1) ^ m := by
      rw [← qv1]
      refine quf fun j _ => ?_
      split
      · cases k with
        | zero => exact Nat.zero_le _
        | succ q => exact rkG_le m _ q
      · omega
    have := rkG_le (fb := fb) (n := n) m S k
    rw [rkG,Nat.pow_succ,Nat.mul_succ,Nat.mul_comm _ n]
    omega
def rkN (fb : Nat → Nat → Bool) (n k : Nat) : Nat := rkG fb n n 0 k
theorem rkN_any {fb : Nat → Nat → Bool} {n : Nat} (h16 : n ≤ 16) {l : List Nat} (hn : l.Nodup) (hl : ∀ r ∈ l,r < n) (hall : ∀ r,r < n → r ∉ l → ∀ c,c < n → fb r c = false) (k : Nat) :
    rowsR fb n l (popIs k) 0 = rkN fb n k := by
  rw [rowsR_any hn hl hall,rkN,rkG_rows h16,lastR_all,show pop16 0 = 0 from by decide]
  rfl
/- Ways asx a map's entries: set, number, stamp. -/
structure RWay where
  t : Nat
  v : Nat
  b : Nat
def RWay.ent (p : RWay) : MapEntry := { key := .int .u16 (p.t : Nat),val := .int .i64 (p.v : Nat),born := p.b }
def sumW (w : List RWay) (g : RWay → Nat) : Nat := (w.map g).sum
theorem qv8 (p : RWay) (w : List RWay) (g : RWay → Nat) : sumW (p :: w) g = g p + sumW w g := by simp [sumW]
theorem sumW_snoc (p : RWay) (w : List RWay) (g : RWay → Nat) : sumW (w ++ [p]) g = sumW w g + g p := by simp [sumW]
theorem sumW_congr {w : List RWay} {g h : RWay → Nat} (he : ∀ p ∈ w,g p = h p) : sumW w g = sumW w h := by
  unfold sumW
  rw [List.map_congr_left he]
theorem sumW_add (w : List RWay) (g h : RWay → Nat) : sumW w (fun p => g p + h p) = sumW w g + sumW w h := by
  induction w with
  | nil => rfl
  | cons p w ih => simp only [qv8]; rw [ih]; omega
theorem sumW_le {w : List RWay} {g : RWay → Nat} {p : RWay} (h : p ∈ w) : g p ≤ sumW w g := by
  induction w with
  | nil => simp at h
  | cons q w ih =>
    rw [qv8]
    rcases List.mem_cons.1 h with rfl|h
    · omega
    · have := ih h; omega
theorem sumW_mono {w : List RWay} {g h : RWay → Nat} (he : ∀ p ∈ w,g p ≤ h p) : sumW w g ≤ sumW w h := by
  induction w with
  | nil => exact Nat.le_refl _
  | cons q w ih => rw [qv8,qv8]; exact Nat.add_le_add (he q (by simp)) (ih fun p hp => he p (by simp [hp]))
structure WaysOk (n ck : Nat) (w : List RWay) : Prop where
  keys : (w.map (·.t)).Nodup
  born : (w.map (·.b)).Nodup
  old : ∀ p ∈ w,p.b < ck
  lt : ∀ p ∈ w,p.t < 2 ^ n
def wE (w : List RWay) (g : Nat → Nat) : Nat := sumW w fun p => p.v * g p.t
theorem ways_set {n ck : Nat} {w : List RWay} (h : WaysOk n ck w) {k : Nat} {p : RWay} (hk : w[k]? = some p) (m : Nat) :
    WaysOk n ck (w.set k { p with v := p.v + m }) ∧ ∀ g,wE (w.set k { p with v := p.v + m }) g = wE w g + m * g p.t := by
  have hmap : ∀ (f : RWay → Nat),f { p with v := p.v + m } = f p → (w.set k { p with v := p.v + m }).map f = w.map f := by
    intro f hf
    rw [List.map_set,hf]
    apply List.ext_getElem?
    intro j
    rw [List.getElem?_set]
    split
    · rename_i e
      subst e
      rw [List.length_map]
      have hlt : k < w.length := (List.getElem?_eq_some_iff.1 hk).1
      rw [if_pos hlt,List.getElem?_map,hk]
      rfl
    · rfl
  refine ⟨⟨by rw [hmap _ rfl]; exact h.keys,by rw [hmap _ rfl]; exact h.born,fun q hq => ?_,fun q hq => ?_⟩,fun g => ?_⟩
  · rcases List.mem_or_eq_of_mem_set hq with hq|rfl
    · exact h.old q hq
    · exact h.old p (List.mem_of_getElem? hk)
  · rcases List.mem_or_eq_of_mem_set hq with hq|rfl
    · exact h.lt q hq
    · exact h.lt p (List.mem_of_getElem? hk)
  · have key : ∀ (w : List RWay) (k : Nat),w[k]? = some p → wE (w.set k { p with v := p.v + m }) g = wE w g + m * g p.t := by
      intro w
      induction w with
      | nil => intro k hk; simp at hk
      | cons q w ih =>
        intro k hk
        cases k with
        | zero =>
          simp at hk
          subst hk
          simp only [List.set_cons_zero,wE,qv8]
          rw [Nat.add_mul]; omega
        | succ k =>
          have := ih k (by simpa using hk)
          simp only [List.set_cons_succ,wE,qv8] at this ⊢
          omega
    exact key w k hk
theorem ways_push {n ck : Nat} {w : List RWay} (h : WaysOk n ck w) {T : Nat} (hT : T < 2 ^ n) (hno : ∀ p ∈ w,p.t ≠ T) (m : Nat) :
    WaysOk n (ck + 1) (w ++ [⟨T,m,ck⟩]) ∧ ∀ g,wE (w ++ [⟨T,m,ck⟩]) g = wE w g + m * g T := by
  refine ⟨⟨?_,?_,fun q hq => ?_,fun q hq => ?_⟩,fun g => by simp only [wE,sumW_snoc]⟩
  · rw [List.map_append,List.nodup_append]
    refine ⟨h.keys,by simp,fun a ha b hb => ?_⟩
    obtain ⟨p,hp,rfl⟩ := List.mem_map.1 ha
    simp at hb
    rw [hb]
    exact hno p hp
  · rw [List.map_append,List.nodup_append]
    refine ⟨h.born,by simp,fun a ha b hb => ?_⟩
    obtain ⟨p,hp,rfl⟩ := List.mem_map.1 ha
    simp at hb
    have := h.old p hp
    omega
  · rcases List.mem_append.1 hq with hq|hq
    · have := h.old q hq; omega
    · simp at hq; subst hq; show ck < ck + 1; omega
  · rcases List.mem_append.1 hq with hq|hq
    · exact h.lt q hq
    · simp at hq; subst hq; exact hT
theorem sumW_seen {w : List RWay} (hn : (w.map (·.b)).Nodup) {seen : Array Nat} {p : RWay} (hp : p ∈ w) (hs : seen.contains p.b = false) (g : RWay → Nat) :
    sumW w (fun q => if (seen.push p.b).contains q.b then g q else 0) = sumW w (fun q => if seen.contains q.b then g q else 0) + g p := by
  have hpush : ∀ b,(seen.push p.b).contains b = (seen.contains b || decide (b = p.b)) := by
    intro b
    by_cases e : b = p.b
    · subst e; simp
    · simp [e]
  induction w with
  | nil => simp at hp
  | cons q w ih =>
    simp only [List.map_cons,List.nodup_cons] at hn
    simp only [qv8]
    rcases List.mem_cons.1 hp with rfl|hp
    · have h1 : sumW w (fun r => if (seen.push p.b).contains r.b then g r else 0) = sumW w (fun r => if seen.contains r.b then g r else 0) := by
        refine sumW_congr fun r hr => ?_
        have : r.b ≠ p.b := fun e => hn.1 (List.mem_map.2 ⟨r,hr,e⟩)
        rw [hpush]
        simp [this]
      rw [h1,hpush,hs]
      simp
      omega
    · have hne : q.b ≠ p.b := fun e => hn.1 (List.mem_map.2 ⟨p,hp,e.symm⟩)
      rw [ih hn.2 hp,hpush]
      simp only [hne,decide_false,Bool.or_false]
      omega
theorem sumW_none (w : List RWay) (g : RWay → Nat) : sumW w (fun q => if (#[] : Array Nat).contains q.b then g q else 0) = 0 := by
  induction w with
  | nil => rfl
  | cons q w ih => rw [qv8,ih]; simp
def leftW (w : List RWay) (seen : Array Nat) : Nat := (w.filter fun q => !seen.contains q.b).length
theorem leftW_lt {w : List RWay} {seen : Array Nat} {p : RWay} (hp : p ∈ w) (hs : seen.contains p.b = false) : leftW w (seen.push p.b) < leftW w seen := by
  have hpush : ∀ b,(seen.push p.b).contains b = (seen.contains b || decide (b = p.b)) := by
    intro b
    by_cases e : b = p.b
    · subst e; simp
    · simp [e]
  unfold leftW
  have hsub : ∀ w : List RWay,(w.filter fun q => !(seen.push p.b).contains q.b) = (w.filter fun q => !seen.contains q.b).filter fun q => !decide (q.b = p.b) := by
    intro w
    rw [List.filter_filter]
    refine List.filter_congr fun q _ => ?_
    rw [hpush,Bool.not_or,Bool.and_comm]
  rw [hsub]
  have hm : p ∈ w.filter fun q => !seen.contains q.b := List.mem_filter.2 ⟨hp,by rw [hs]; rfl⟩
  refine List.length_filter_lt_length_iff_exists.2 ⟨p,hm,by simp⟩
end Go.Am
namespace Go.Am
variable [Go.Am.CodeBlk]
theorem sumN_succ' (f : Nat → Nat) : ∀ n : Nat,sumN (n + 1) f = f 0 + sumN n fun k => f (k + 1)
  | 0 => by simp [sumN]
  | n + 1 => by
    rw [sumN,sumN_succ' f n,sumN]
    omega
theorem sumN_mul (a : Nat) (f : Nat → Nat) : ∀ n : Nat,sumN n (fun c => a * f c) = a * sumN n f
  | 0 => rfl
  | n + 1 => by simp only [sumN]; rw [sumN_mul a f n,Nat.mul_add]
def bi : Nat → Nat → Nat
  | _,0 => 1
  | 0,_ + 1 => 0
  | n + 1,k + 1 => bi n k + bi n (k + 1)
theorem bi_big : ∀ n k : Nat,n < k → bi n k = 0
  | _,0,h => absurd h (by omega)
  | 0,_ + 1,_ => rfl
  | n + 1,k + 1,h => by rw [bi,bi_big n k (by omega),bi_big n (k + 1) (by omega)]
theorem bi_self : ∀ n : Nat,bi n n = 1
  | 0 => rfl
  | n + 1 => by rw [bi,bi_self n,bi_big n (n + 1) (by omega)]
def fcN : Nat → Nat
  | 0 => 1
  | n + 1 => (n + 1) * fcN n
def freeN (n S : Nat) : Nat := sumN n fun c => if S.testBit c then 0 else 1
theorem free_ins {n S d : Nat} (hd : d < n) (h : S.testBit d = false) : freeN n (insC S d) + 1 = freeN n S := by
  have key : ∀ m,sumN m (fun c => if (insC S d).testBit c then 0 else 1) + (if d < m then 1 else 0) = sumN m (fun c => if S.testBit c then 0 else 1) := by
    intro m
    induction m with
    | zero => simp [sumN]
    | succ m ih =>
      simp only [sumN]
      rw [← ih,qu1]
      by_cases hm : d = m
      · subst hm; simp [h]
      · by_cases h1 : d < m
        · simp [hm,h1,show d < m + 1 by omega]; omega
        · simp [hm,h1,show ¬ d < m + 1 by omega]
  have := key n
  unfold freeN
  rw [← this,if_pos hd]
theorem free_all (n : Nat) : freeN n 0 = n := by
  unfold freeN
  rw [qx1 (g := fun _ => 1) fun c _ => by simp,qv1]
  omega
def sumF (n S : Nat) (f : Nat → Nat) : Nat := sumN n fun c => if S.testBit c then 0 else f c
theorem sumF_add (n S : Nat) (f g : Nat → Nat) : sumF n S (fun c => f c + g c) = sumF n S f + sumF n S g := by
  unfold sumF
  rw [← sumN_add]
  exact qx1 fun c _ => by split <;> rfl
theorem sumF_mul (n S a : Nat) (f : Nat → Nat) : sumF n S (fun c => a * f c) = a * sumF n S f := by
  unfold sumF
  rw [← sumN_mul]
  exact qx1 fun c _ => by split <;> simp
theorem qwa {n S : Nat} {f g : Nat → Nat} (h : ∀ c,c < n → S.testBit c = false → f c = g c) : sumF n S f = sumF n S g := by
  unfold sumF
  refine qx1 fun c hc => ?_
  cases hb : S.testBit c
  · simp [h c hc hb]
  · simp
theorem sumF_const (n S a : Nat) : sumF n S (fun _ => a) = freeN n S * a := by
  unfold sumF freeN
  rw [Nat.mul_comm,← sumN_mul]
  exact qx1 fun c _ => by split <;> simp
theorem sumF_comm (n S : Nat) (f : Nat → Nat → Nat) : sumF n S (fun c => sumF n (insC S c) (f c)) = sumF n S (fun d => sumF n (insC S d) (fun c => f c d)) := by
  have key : ∀ f : Nat → Nat → Nat,sumF n S (fun c => sumF n (insC S c) (f c)) = sumN n fun c => sumN n fun d => if S.testBit c || (S.testBit d || decide (c = d)) then 0 else f c d := by
    intro f
    unfold sumF
    refine qx1 fun c _ => ?_
    cases hb : S.testBit c
    · simp only [Bool.false_or,Bool.false_eq_true,if_false]
      refine qx1 fun d _ => ?_
      rw [qu1]
    · simp [qv3]
  rw [key,key,sumN_comm]
  refine qx1 fun b _ => qx1 fun a _ => ?_
  have : (S.testBit a || (S.testBit b || decide (a = b))) = (S.testBit b || (S.testBit a || decide (b = a))) := by
    rw [show decide (a = b) = decide (b = a) from decide_eq_decide.2 eq_comm]
    cases S.testBit a <;> cases S.testBit b <;> rfl
  rw [this]
def onR (fb : Nat → Nat → Bool) (n m S : Nat) (f : Nat → Nat) : Nat := sumF n S fun d => if fb (n - (m + 1)) d then f d else 0
theorem rkG_zero (fb : Nat → Nat → Bool) (n : Nat) : ∀ m S,rkG fb n m S 0 = 1
  | 0,_ => rfl
  | m + 1,S => by
    rw [rkG,rkG_zero fb n m S,qx1 (g := fun _ => 0) fun j _ => by split <;> rfl,qv3]
theorem rkG_on (fb : Nat → Nat → Bool) (n m S q : Nat) : rkG fb n (m + 1) S (q + 1) = rkG fb n m S (q + 1) + onR fb n m S fun d => rkG fb n m (insC S d) q := by
  rw [rkG]
  unfold onR sumF
  congr 1
  refine qx1 fun j _ => ?_
  show (if (fb (n - (m + 1)) j && !S.testBit j) = true then rkG fb n m (insC S j) q else 0) = (if S.testBit j = true then 0 else if fb (n - (m + 1)) j = true then rkG fb n m (insC S j) q else 0)
  cases fb (n - (m + 1)) j <;> cases S.testBit j <;> rfl
theorem rk_free (fb : Nat → Nat → Bool) (n : Nat) : ∀ m S k,sumF n S (fun c => rkG fb n m (insC S c) k) + k * rkG fb n m S k = freeN n S * rkG fb n m S k
  | m,S,0 => by
    rw [qwa (g := fun _ => 1) fun c _ _ => rkG_zero fb n m _,sumF_const,rkG_zero]
    omega
  | 0,S,k + 1 => by
    have e : ∀ T,rkG fb n 0 T (k + 1) = 0 := fun T => rfl
    rw [qwa (g := fun _ => 0) fun c _ _ => e _,sumF_const,e]
    omega
  | m + 1,S,q + 1 => by
    have ih1 := rk_free fb n m S (q + 1)
    rw [qwa fun c _ _ => rkG_on fb n m (insC S c) q,sumF_add,rkG_on]
    have e1 : sumF n S (fun c => onR fb n m (insC S c) fun d => rkG fb n m (insC (insC S c) d) q) + (q + 1) * onR fb n m S (fun d => rkG fb n m (insC S d) q) = freeN n S * onR fb n m S fun d => rkG fb n m (insC S d) q := by
      unfold onR
      rw [sumF_comm n S (fun c d => if fb (n - (m + 1)) d then rkG fb n m (insC (insC S c) d) q else 0),← sumF_mul,← sumF_mul,← sumF_add]
      refine qwa fun d hd hb => ?_
      cases hf : fb (n - (m + 1)) d
      · simp only [Bool.false_eq_true,if_false,Nat.mul_zero,Nat.add_zero]
        rw [sumF_const,Nat.mul_zero]
      · simp only [if_true]
        have ih2 := rk_free fb n m (insC S d) q
        have hfr := free_ins hd hb
        rw [qwa (g := fun c => rkG fb n m (insC (insC S d) c) q) fun c _ _ => by rw [insC_comm],← hfr,Nat.add_mul,Nat.add_mul]
        omega
    rw [Nat.mul_add,Nat.mul_add]
    omega
def hitW (fb : Nat → Nat → Bool) (n : Nat) : Nat → Nat → Nat → Nat
  | 0,_,k => if k = 0 then 1 else 0
  | m + 1,S,k => sumF n S fun j => if fb (n - (m + 1)) j then (match k with|0 => 0|q + 1 => hitW fb n m (insC S j) q) else hitW fb n m (insC S j) k
theorem hitW_big (fb : Nat → Nat → Bool) (n : Nat) : ∀ m S k,m < k → hitW fb n m S k = 0
  | 0,S,k,h => by rw [hitW,if_neg (by omega)]
  | m + 1,S,k,h => by
    rw [hitW,qwa (g := fun _ => 0) fun j _ _ => ?_,sumF_const,Nat.mul_zero]
    split
    · cases k with
      | zero => rfl
      | succ q => exact hitW_big fb n m _ q (by omega)
    · exact hitW_big fb n m _ k (by omega)
def chG (fb : Nat → Nat → Bool) (n m S j : Nat) : Nat := sumN (m + 1) fun k => bi k j * hitW fb n m S k
theorem sumN_sumF (n S : Nat) (f : Nat → Nat → Nat) : ∀ u,sumN u (fun k => sumF n S (f k)) = sumF n S fun c => sumN u fun k => f k c
  | 0 => by
    simp only [sumN]
    rw [sumF_const,Nat.mul_zero]
  | u + 1 => by simp only [sumN]; rw [sumN_sumF n S f u,← sumF_add]
theorem chG_big {fb : Nat → Nat → Bool} {n m S j : Nat} : sumN (m + 2) (fun k => bi k j * hitW fb n m S k) = chG fb n m S j := by
  rw [sumN,hitW_big fb n m S (m + 1) (by omega),Nat.mul_zero]
  rfl
theorem chG_more (fb : Nat → Nat → Bool) (n m S j : Nat) : chG fb n (m + 1) S (j + 1) = sumF n S (fun c => chG fb n m (insC S c) (j + 1)) + onR fb n m S fun c => chG fb n m (insC S c) j := by
  unfold onR
  rw [← sumF_add]
  have e1 : chG fb n (m + 1) S (j + 1) = sumN (m + 2) fun k => sumF n S fun c => bi k (j + 1) * if fb (n - (m + 1)) c then (match k with|0 => 0|q + 1 => hitW fb n m (insC S c) q) else hitW fb n m (insC S c) k := by
    unfold chG
    refine qx1 fun k _ => ?_
    rw [sumF_mul]
    rfl
  rw [e1,sumN_sumF]
  refine qwa fun c _ _ => ?_
  cases fb (n - (m + 1)) c
  · simp only [Bool.false_eq_true,if_false,Nat.add_zero]
    exact chG_big
  · simp only [if_true]
    rw [sumN_succ']
    have e2 : sumN (m + 1) (fun k => bi (k + 1) (j + 1) * hitW fb n m (insC S c) k) = sumN (m + 1) (fun k => bi k j * hitW fb n m (insC S c) k + bi k (j + 1) * hitW fb n m (insC S c) k) := qx1 fun k _ => by rw [bi,Nat.add_mul]
    show bi 0 (j + 1) * 0 + sumN (m + 1) (fun k => bi (k + 1) (j + 1) * hitW fb n m (insC S c) k) = _
    rw [e2,sumN_add]
    unfold chG
    omega
theorem chG_none (fb : Nat → Nat → Bool) (n m S : Nat) : chG fb n (m + 1) S 0 = sumF n S fun c => chG fb n m (insC S c) 0 := by
  have e1 : chG fb n (m + 1) S 0 = sumN (m + 2) fun k => sumF n S fun c => bi k 0 * if fb (n - (m + 1)) c then (match k with|0 => 0|q + 1 => hitW fb n m (insC S c) q) else hitW fb n m (insC S c) k := by
    unfold chG
    refine qx1 fun k _ => ?_
    rw [sumF_mul]
    rfl
  rw [e1,sumN_sumF]
  refine qwa fun c _ _ => ?_
  cases fb (n - (m + 1)) c
  · simp only [Bool.false_eq_true,if_false]
    exact chG_big
  · simp only [if_true]
    rw [sumN_succ']
    have e2 : sumN (m + 1) (fun k => bi (k + 1) 0 * hitW fb n m (insC S c) k) = sumN (m + 1) (fun k => bi k 0 * hitW fb n m (insC S c) k) := qx1 fun k _ => by cases k <;> rfl
    show bi 0 0 * 0 + sumN (m + 1) (fun k => bi (k + 1) 0 * hitW fb n m (insC S c) k) = _
    rw [e2]
    unfold chG
    omega
theorem fc_step {m j : Nat} (h : j ≤ m) : (m + 1 - j) * fcN (m - j) = fcN (m + 1 - j) := by
  rw [show m + 1 - j = m - j + 1 by omega,fcN]
theorem hits_rooks (fb : Nat → Nat → Bool) (n : Nat) : ∀ m S j,freeN n S = m → chG fb n m S j = rkG fb n m S j * fcN (m - j)
  | 0,S,j,_ => by
    show 0 + bi 0 j * hitW fb n 0 S 0 = _
    cases j with
    | zero => rfl
    | succ j =>
      show 0 + 0 * _ = 0 * _
      omega
  | m + 1,S,0,h => by
    rw [chG_none,qwa (g := fun c => rkG fb n m (insC S c) 0 * fcN m) fun c hc hb => ?_]
    · rw [qwa (g := fun _ => fcN m) fun c _ _ => by rw [rkG_zero,Nat.one_mul],sumF_const,h,rkG_zero,Nat.one_mul]
      rfl
    · have := free_ins hc hb
      exact hits_rooks fb n m (insC S c) 0 (by omega)
  | m + 1,S,j + 1,h => by
    have e1 : sumF n S (fun c => chG fb n m (insC S c) (j + 1)) = fcN (m - (j + 1)) * sumF n S fun c => rkG fb n m (insC S c) (j + 1) := by
      rw [← sumF_mul]
      refine qwa fun c hc hb => ?_
      have := free_ins hc hb
      rw [hits_rooks fb n m (insC S c) (j + 1) (by omega),Nat.mul_comm]
    have e2 : (onR fb n m S fun c => chG fb n m (insC S c) j) = fcN (m - j) * onR fb n m S fun c => rkG fb n m (insC S c) j := by
      unfold onR
      rw [← sumF_mul]
      refine qwa fun c hc hb => ?_
      have := free_ins hc hb
      cases fb (n - (m + 1)) c
      · simp
      · simp only [if_true]
        rw [hits_rooks fb n m (insC S c) j (by omega),Nat.mul_comm]
    have hfree := rk_free fb n m S (j + 1)
    rw [h] at hfree
    rw [chG_more,e1,e2,rkG_on,show m + 1 - (j + 1) = m - j by omega,Nat.add_mul,Nat.mul_comm (fcN (m - j))]
    congr 1
    by_cases hj : j + 1 ≤ m
    · have e3 : sumF n S (fun c => rkG fb n m (insC S c) (j + 1)) = (m - j) * rkG fb n m S (j + 1) := by
        have : (m + 1) * rkG fb n m S (j + 1) = (m - j) * rkG fb n m S (j + 1) + (j + 1) * rkG fb n m S (j + 1) := by
          rw [← Nat.add_mul,show m - j + (j + 1) = m + 1 by omega]
        omega
      have e4 := fc_step hj
      rw [show m + 1 - (j + 1) = m - j by omega] at e4
      rw [e3,← e4,← Nat.mul_assoc,Nat.mul_comm (fcN (m - (j + 1))),Nat.mul_comm _ (rkG fb n m S (j + 1))]
    · rw [rkG_big m S (j + 1) (by omega),Nat.zero_mul,qwa (g := fun _ => 0) fun c _ _ => rkG_big m _ (j + 1) (by omega),sumF_const,Nat.mul_zero,Nat.mul_zero]
end Go.Am
