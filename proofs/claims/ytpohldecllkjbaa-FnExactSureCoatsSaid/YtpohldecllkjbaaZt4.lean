/- The abstract machine, contracts: part 4 of what this claim needs. -/
import Derived.Test.YtpohldecllkjbaaZt3
namespace Go.Am
variable {P : Program} {own : Bool} {N : Nat} {s : AS} {K : AS → Prop} {d : Option Nat}
/-- The end of a function that is given regions. -/
def DoneT (ts : List Nat) (res : AV) (hin hout : Hp) : Exit → AS → Prop
  | .normal, s | .ret, s => ∃ g : Nat → Nat, resAV s ts = renV g res ∧ (∀ r c, hout r = some c → ∃ c0, s.hp (g r) = some c0 ∧ (c0 = renR g c ∨ (c.2 = [] ∧ c0.2 = []))) ∧ (∀ r, (hin r).isSome = true → r < gvb → g r = r ∧ (hout r).isSome = true) ∧
      (∀ r, (hout r).isSome = true → hin r = none → g r < pbase) ∧ (∀ r r', (hout r).isSome = true → (hout r').isSome = true → g r = g r' → r = r') ∧ ∀ r, (hout r).isSome = true → r < gvb
  | _, _ => False
theorem specT_of {f : FuncId} {fn : Func} {code : Code} {ac : ACode} {ts : List Nat} {asx : List AV} {hin hout : Hp} {res : AV} (hf : P.funcs[f]? = some fn) (hb : fn.body = some code) (hc : ccode P (min fn.ntmps pbase) code = some ac) (hr : resTmps fn = some ts)
    (hst : Static hin res hout) (s0 : AS) (hw : Weak (enterH asx hin) s0) (h : AW P (min fn.ntmps pbase) ac s0 (DoneT ts res hin hout)) : SpG P f asx hin res hout := by
  intro w vs phi hg hgb hinj hregs hs hl
  refine calls_of_wp hf hb (wp_mono (AW_weak hw h code hc w _ _ w ⟨rfl, _, _, enterH_sim hg hgb hst.pb hinj hregs hs hl⟩) fun e a' w' hA => ?_)
  obtain ⟨s', h1, hf', phi', ro, hS⟩ := hA
  have fin : (∃ g : Nat → Nat, resAV s' ts = renV g res ∧ (∀ r c, hout r = some c → ∃ c0, s'.hp (g r) = some c0 ∧ (c0 = renR g c ∨ (c.2 = [] ∧ c0.2 = []))) ∧ (∀ r, (hin r).isSome = true → r < gvb → g r = r ∧ (hout r).isSome = true) ∧
      (∀ r, (hout r).isSome = true → hin r = none → g r < pbase) ∧ (∀ r r', (hout r).isSome = true → (hout r').isSome = true → g r = g r' → r = r') ∧ ∀ r, (hout r).isSome = true → r < gvb) → a'.defers = [] ∧ ∃ v, (results fn a'.tmps).run P w' = .ok v w' ∧
      ∃ v' phi', Ending.returned v = .returned v' ∧ w'.os = w.os ∧ w'.tape = w.tape ∧ w'.output = w.output ∧ w.heap.size ≤ w'.heap.size ∧
      (∀ r, (hin r).isSome = true → r < gvb → phi' r = phi r) ∧ (∀ b, b < w.heap.size → (∀ r, (hin r).isSome = true → phi r ≠ some b) → w'.heap[b]? = w.heap[b]?) ∧
      (∀ (b : Nat) (cur : Array Value) (e : TypeId) (f : Nat × Nat), w.heap[b]? = some (.cells cur e f) → ∃ cur' : Array Value, w'.heap[b]? = some (.cells cur' e f) ∧ cur'.size = cur.size) ∧
      Inj hout phi' ∧ (∀ r b, (hout r).isSome = true → hin r = none → phi' r = some b → w.heap.size ≤ b ∨ ∃ r', gvb ≤ r' ∧ (hin r').isSome = true ∧ phi r' = some b) ∧ Regs (ctxX w w' phi' hout) hout ∧ SimV res (ctxX w w' phi' hout) v' := by
    rintro ⟨g, hres, hhas, hstay, hfresh, hgi, hltg⟩
    have hlv : ∀ r, (hout r).isSome = true → (s'.hp (g r)).isSome = true := by
      intro r hr
      obtain ⟨c, hc⟩ := Option.isSome_iff_exists.1 hr
      obtain ⟨c0, h1, _⟩ := hhas r c hc
      rw [h1]; rfl
    have hvt : SimV (resAV s' ts) (ctx w w' ro phi' s') (resVal a'.tmps ts) := simv_res hS ts
    rw [hres] at hvt
    refine ⟨hf', _, run_results hr a'.tmps w' P, _, fun r => phi' (g r), rfl, hS.os, hS.tape, hS.output, hS.size, fun r hr hlt => ?_, fun b hb hne => hS.kept b hb fun r hr => ?_, hS.shp, ?_, ?_, ?_, ?_⟩
    · obtain ⟨e1, e2⟩ := hstay r hr hlt
      obtain ⟨c, hc⟩ := Option.isSome_iff_exists.1 e2
      obtain ⟨c0, hh, _⟩ := hhas r c hc
      rw [e1] at hh
      show phi' (g r) = phi r
      rw [e1]
      rcases hS.liv r _ hh with ⟨k1, _, k3⟩ | ⟨b, cur, e', k1, _, _, k4, _⟩ | ⟨b, o, _, k1, _, _, _, k4⟩
      case inr.inr =>
        rcases k4 with k4 | k4
        · have := hst.pb r hr; omega
        · have k5 := k4.2
          simp only [hr, if_true] at k5
          rw [k1, k5]
      · have k5 := k3 (hst.pb r hr)
        simp only [hr, if_true] at k5
        rw [k1, k5]
      · rcases k4 with k4 | k4
        · have := hst.pb r hr; omega
        · have k5 := k4.2
          simp only [hr, if_true] at k5
          rw [k1, k5]
    · split at hr
      · rename_i hrs; exact hne r hrs hr
      · cases hr
    · intro r r' b h1 h2 h3 h4
      exact hgi r r' h1 h2 (hS.inj _ _ b (hlv r h1) (hlv r' h2) h3 h4)
    · intro r b h1 h2 h3
      obtain ⟨c, hc⟩ := Option.isSome_iff_exists.1 h1
      have hlt := hfresh r h1 h2
      obtain ⟨c0, hh0, _⟩ := hhas r c hc
      have key : Mine w (fun r => if (hin r).isSome = true then phi r else none) b → w.heap.size ≤ b ∨ ∃ r', gvb ≤ r' ∧ (hin r').isSome = true ∧ phi r' = some b := by
        rintro (k | ⟨r', k1, k2⟩)
        · exact .inl k
        · by_cases hi : (hin r').isSome = true
          · simp only [hi, if_true] at k2
            exact .inr ⟨r', k1, hi, k2⟩
          · simp only [hi, Bool.false_eq_true, if_false] at k2
            cases k2
      rcases hS.liv _ _ hh0 with ⟨k1, _⟩ | ⟨b', _, _, k1, _, _, k4, _⟩ | ⟨b', _, _, k1, _, _, _, k4⟩
      · have h3' : phi' (g r) = some b := h3
        rw [k1] at h3'; cases h3'
      case inr.inr =>
        have h3' : phi' (g r) = some b := h3
        rw [k1] at h3'; cases h3'
        rcases k4 with k4 | k4
        · exact key k4.2
        · omega
      · have h3' : phi' (g r) = some b := h3
        rw [k1] at h3'; cases h3'
        rcases k4 with k4 | k4
        · exact key k4.2
        · omega
    · intro r c hc
      obtain ⟨ho, hrf⟩ := hst.own r c hc
      obtain ⟨c0, hh0, hc0⟩ := hhas r c hc
      rcases hS.liv _ _ hh0 with ⟨k1, k2, _⟩ | ⟨b, cur, e', k1, k2, _, _, k5⟩ | ⟨b, o, h0, k1, k2, k3, _⟩
      case inr.inr =>
        rcases hc0 with rfl | hc0
        · exact .inr (.inr ⟨b, o, renR_ob h0, k1, k2, k3⟩)
        · rw [h0] at hc0; simp at hc0
      · refine .inl ⟨k1, ?_⟩
        rcases hc0 with rfl | hc0
        · obtain ⟨fl, cs⟩ := c
          simp only [renR, renL_map] at k2
          exact List.map_eq_nil_iff.1 k2
        · exact hc0.1
      · rcases hc0 with rfl | hc0
        case inr => exact .inr (.inl ⟨b, cur, e', k1, k2, by unfold SimR; rw [hc0.1]; simp [SimL]⟩)
        refine .inr (.inl ?_)
        exact ⟨b, cur, e', k1, k2, simR_in (q := false) (C := ctxX w w' (fun r => phi' (g r)) hout) (D := ctx w w' ro phi' s') rfl (fun e => by cases e) (fun _ => rfl) (fun _ r _ => rfl) ho hrf k5⟩
    · exact simV_in false g (ctxX w w' (fun r => phi' (g r)) hout) (ctx w w' ro phi' s') rfl (fun e => by cases e) (fun _ => rfl) (fun _ r _ => rfl) res _ hst.res.1 hst.res.2 hvt
  cases e with
  | normal => exact fin h1
  | ret => exact fin h1
  | exit id => exact h1.elim
  | goto l => exact h1.elim
  | panic c => exact h1.elim
  | outgrown => exact h1.elim
/-- A call that regions are given to. -/
theorem m_callG {f : FuncId} {args : List Opd} {asx : List AV} {hin hout hp' : Hp} {res : AV} (g : Nat → Nat) (p : Nat → Bool) (hs : SpG P f asx hin res hout) (ha : LendsH s.hp g hin (args.map s.ev) asx) (hG : Given s p g hin hout hp' res)
    (k : K (AS.put ⟨(s.drop p).tm, hp'⟩ d (renV g res))) : aop1 P true ⟨d, .call f args, none⟩ s K := .inr (.inr (.inr (.inl ⟨rfl, asx, hin, res, hout, g, p, hp', hs, ha, hG, k⟩)))
/-- Names on both sides of forgetting; what was given may become a region of the call's own. -/
def nameOk (r q : Nat) : Prop := (r < pbase ∧ q < pbase) ∨ (pbase ≤ r ∧ q = r) ∨ (r < pbase ∧ gvb ≤ q)
/-- THE RULE OF FORGETTING, where what was given becomes the call's own. -/
theorem weak_ren3 {s s' : AS} (f : Nat → Nat) (htm : ∀ t, s'.tm t = .any ∨ s.tm t = renV f (s'.tm t)) (hhp : ∀ r c', s'.hp r = some c' → ∃ c, s.hp (f r) = some c ∧ cellsRen f c c')
    (hinj : ∀ r r', (s'.hp r).isSome = true → (s'.hp r').isSome = true → f r = f r' → r = r') (hpb : ∀ r, (s'.hp r).isSome = true → nameOk r (f r))
    (href : ∀ t, refsV (fun r => (s'.hp r).isSome) (s'.tm t) = true) (hrefh : ∀ r cs, s'.hp r = some (false, cs) → refsL (fun r => (s'.hp r).isSome) cs = true) : Weak s s' := by
  intro w0 mu N a w hS
  obtain ⟨hf, phi, ro, hS⟩ := hS
  have hlive : ∀ r, (s'.hp r).isSome = true → (s.hp (f r)).isSome = true := by
    intro r hr
    obtain ⟨c, hc⟩ := Option.isSome_iff_exists.1 hr
    obtain ⟨c0, h1, _⟩ := hhp r c hc
    rw [h1]; rfl
  have hgp : pbase ≤ gvb := by decide
  have hown : ∀ r b, nameOk r (f r) → (f r < pbase ∧ Mine w0 mu b ∨ pbase ≤ f r ∧ mu (f r) = some b) → (r < pbase ∧ Mine w0 mu b ∨ pbase ≤ r ∧ mu r = some b) := by
    intro r b hp k4
    rcases hp with ⟨h3, h4⟩ | ⟨h3, h4⟩ | ⟨h3, h4⟩
    · rcases k4 with k4 | k4
      · exact .inl ⟨h3, k4.2⟩
      · omega
    · rcases k4 with k4 | k4
      · omega
      · exact .inr ⟨h3, by rw [← h4]; exact k4.2⟩
    · rcases k4 with k4 | k4
      · omega
      · exact .inl ⟨h3, .inr ⟨_, h4, k4.2⟩⟩
  refine ⟨hf, fun r => phi (f r), ro, { hS with
    inj := fun r r' b h1 h2 h3 h4 => hinj r r' h1 h2 (hS.inj _ _ b (hlive r h1) (hlive r' h2) h3 h4)
    liv := fun r c hc => ?_
    tms := fun t => ?_ }⟩
  · obtain ⟨c0, h1, h2⟩ := hhp r c hc
    have hp := hpb r (by rw [hc]; rfl)
    rcases hS.liv _ _ h1 with ⟨k1, k2, k3⟩ | ⟨b, cur, e, k1, k2, k3, k4, k5⟩ | ⟨b, o, rfl, k1, k2, k0, k3, k4⟩
    case inr.inr =>
      refine .inr (.inr ⟨b, o, ?_, k1, k2, k0, k3, hown r b hp k4⟩)
      obtain ⟨fl, cs⟩ := c
      rcases h2 with ⟨h3, h4⟩ | ⟨h3, h4⟩
      · simp only at h3 h4
        rw [h3]; exact h4.symm
      · simp only at h3
        rcases h4 with h4 | ⟨_, h4⟩ | ⟨h4, h5⟩
        · cases h4
        · simp at h4
        · simp only [Prod.mk.injEq, true_and] at h4
          rw [← h4] at h5
          simp [plainV] at h5
    · refine .inl ⟨k1, ?_, fun hge => ?_⟩
      · rcases h2 with ⟨_, rfl⟩ | ⟨_, rfl | ⟨h3, _⟩ | ⟨rfl, _⟩⟩
        · exact k2
        · simp only [renL_map] at k2
          exact List.map_eq_nil_iff.1 k2
        · exact h3
        · exact k2
      · rcases hp with ⟨h3, _⟩ | ⟨_, h3⟩ | ⟨h3, _⟩
        · omega
        · rw [h3] at k3; exact k3 hge
        · omega
    · refine .inr (.inl ⟨b, cur, e, k1, k2, k3, hown r b hp k4, ?_⟩)
      obtain ⟨fl, cs⟩ := c
      rcases h2 with ⟨h3, h4⟩ | ⟨h3, h4⟩
      · simp only at h3 h4
        subst h3; subst h4
        simp only [SimR, if_true] at k5 ⊢
        exact simL_out_any (ctx w0 w ro phi s) (ctx w0 w ro (fun r => phi (f r)) s') rfl rfl rfl _ _ k5
      · simp only at h3 h4
        subst h3
        simp only [SimR, Bool.false_eq_true, if_false]
        rcases h4 with rfl | ⟨h5, h6⟩ | ⟨rfl, h5⟩
        · simp only [SimR, Bool.false_eq_true, if_false] at k5
          exact simL_ren f (ctx w0 w ro (fun r => phi (f r)) s') (ctx w0 w ro phi s) rfl rfl rfl rfl (fun _ _ => rfl) cs _ (hrefh r cs hc) k5
        · rw [h5]; simp [SimL]
        · simp only [SimR, if_true] at k5
          exact simL_allv h5 k5
  · rcases htm t with h1 | h1
    · rw [h1]; simp [SimV]
    · have h2 := hS.tms t
      rw [h1] at h2
      exact simV_ren f (ctx w0 w ro (fun r => phi (f r)) s') (ctx w0 w ro phi s) rfl rfl rfl rfl (fun _ _ => rfl) _ _ (href t) h2
/-- A state with regions of a finite list, and rows. -/
def stG (l : List (Nat × AV)) (h : List (Nat × (Bool × List AV))) (b : Nat) (rows : List (List Int)) : AS := ⟨fun t => (look l t).getD .any, famH (look h) b rows⟩
/-- Forgetting, to such a state. -/
theorem weak_G {l : List (Nat × AV)} {h : List (Nat × (Bool × List AV))} {b : Nat} {rows : List (List Int)} (F : Nat → Nat) (hl : HasF s F l) (hh : HasJ s F h)
    (hrow : ∀ j, j < rows.length → s.hp (F (b + j)) = some (true, (rows.getD j []).map AV.i))
    (hnd : (h.map fun p => F p.1).Nodup) (hri : ∀ j j', j < rows.length → j' < rows.length → F (b + j) = F (b + j') → j = j') (hdis : ∀ p ∈ h, ∀ j, j < rows.length → F p.1 ≠ F (b + j))
    (hpb : ∀ p ∈ h, nameOk p.1 (F p.1)) (hpr : ∀ j, j < rows.length → nameOk (b + j) (F (b + j)))
    (hr : refsT (fun r => (famH (look h) b rows r).isSome) l = true) (hrh : ∀ p ∈ h, p.2.1 = false → refsL (fun r => (famH (look h) b rows r).isSome) p.2.2 = true) : Weak s (stG l h b rows) := by
  have hcase : ∀ r, (famH (look h) b rows r).isSome = true → r ∈ h.map (·.1) ∨ ∃ j, j < rows.length ∧ r = b + j := by
    intro r hr'
    obtain ⟨c, hc⟩ := Option.isSome_iff_exists.1 hr'
    rcases famH_some hc with h1 | ⟨_, j, h2, h3, _⟩
    · exact .inl (look_isSome.1 (by rw [h1]; rfl))
    · exact .inr ⟨j, h2, h3⟩
  refine weak_ren3 F (fun t => ?_) (fun r c' hc => ?_) (fun r r' h1 h2 e => ?_) (fun r hr' => ?_) (fun t => ?_) (fun r cs hc => ?_)
  · show (look l t).getD .any = .any ∨ s.tm t = renV F ((look l t).getD .any)
    cases hx : look l t with
    | none => exact .inl rfl
    | some x => exact .inr (look_hasF hl hx)
  · rcases famH_some hc with h1 | ⟨_, j, h2, h3, h4⟩
    · exact hh.at (look_mem h1)
    · rw [h3, h4]
      exact ⟨_, hrow j h2, .inl ⟨rfl, rfl⟩⟩
  · rcases hcase r h1 with k1 | ⟨j, k1, rfl⟩
    · rcases hcase r' h2 with k2 | ⟨j', k2, rfl⟩
      · exact look_inj hnd k1 k2 e
      · obtain ⟨p, hp, rfl⟩ := List.mem_map.1 k1
        exact absurd e (hdis p hp j' k2)
    · rcases hcase r' h2 with k2 | ⟨j', k2, rfl⟩
      · obtain ⟨p, hp, rfl⟩ := List.mem_map.1 k2
        exact absurd e.symm (hdis p hp j k1)
      · rw [hri j j' k1 k2 e]
  · rcases hcase r hr' with k1 | ⟨j, k1, rfl⟩
    · obtain ⟨p, hp, rfl⟩ := List.mem_map.1 k1
      exact hpb p hp
    · exact hpr j k1
  · show refsV (fun r => (famH (look h) b rows r).isSome) ((look l t).getD .any) = true
    cases hx : look l t with
    | none => rfl
    | some x => exact look_refs hr hx
  · rcases famH_some hc with h1 | ⟨_, j, _, _, h4⟩
    · exact hrh _ (look_mem h1) rfl
    · cases h4
/-- What a value is to a callee that is lent regions under the names g. -/
def LendH1 (hp : Hp) (g : Nat → Nat) (hin : Hp) (x y : AV) : Prop := ∀ w0 mu N tm w phi ro v, Sim w0 mu N ⟨fun _ => .any, hp⟩ tm w phi ro → SimV x (ctx w0 w ro phi ⟨fun _ => .any, hp⟩) v → SimV y (ctxE w (fun r => phi (g r)) hin) v
theorem lendH_nil {hp : Hp} {g : Nat → Nat} {hin : Hp} : LendsH hp g hin [] [] := fun _ _ _ _ _ _ _ vs _ _ hl => ⟨by simp [SimL], hl⟩
theorem lendH_cons {hp : Hp} {g : Nat → Nat} {hin : Hp} {x y : AV} {xs ys : List AV} (h : LendH1 hp g hin x y) (hs : LendsH hp g hin xs ys) : LendsH hp g hin (x :: xs) (y :: ys) := by
  intro w0 mu N tm w phi ro vs hS hv hl
  cases vs with
  | nil => simp at hl
  | cons v vs =>
    simp only [SimL] at hv
    obtain ⟨h1, h2⟩ := hs w0 mu N tm w phi ro vs hS hv.2 (by simpa using hl)
    exact ⟨⟨h w0 mu N tm w phi ro v hS hv.1, h1⟩, by simpa using h2⟩
theorem lendH_v {hp : Hp} {g : Nat → Nat} {hin : Hp} {c : Value} : LendH1 hp g hin (.v c) (.v c) := fun _ _ _ _ _ _ _ _ _ h => by simpa [SimV] using h
/-- A block that somebody reads is not lent. -/
theorem not_lent {hp : Hp} {g : Nat → Nat} {hin : Hp} (hin1 : ∀ r c, hin r = some c → (hp (g r)).isSome = true) {w0 : World} {mu : Nat → Option Nat} {N : Nat} {tm : Array Value} {w : World} {phi : Nat → Option Nat} {ro : Nat → Prop} (hS : Sim w0 mu N ⟨fun _ => .any, hp⟩ tm w phi ro) {b : Nat} (hb : ro b) :
    b < w.heap.size ∧ ∀ r, (hin r).isSome = true → phi (g r) ≠ some b := by
  refine ⟨hS.rob b hb, fun r hr hp' => ?_⟩
  obtain ⟨c, hc⟩ := Option.isSome_iff_exists.1 hr
  obtain ⟨c', hc'⟩ := Option.isSome_iff_exists.1 (hin1 r c hc)
  rcases hS.liv _ _ hc' with ⟨h1, _⟩ | ⟨b', _, _, h1, _, h2, _⟩ | ⟨b', _, _, h1, _, _, h2, _⟩
  · rw [h1] at hp'; cases hp'
  · rw [h1] at hp'; cases hp'
    exact h2 hb
  · rw [h1] at hp'; cases hp'
    exact h2 hb
theorem lendH_ren {hp : Hp} {g : Nat → Nat} {hin : Hp} {x : AV} (hin1 : ∀ r c, hin r = some c → (hp (g r)).isSome = true) (ho : ownV true x = true) (hr : refsV (fun r => (hin r).isSome) x = true) : LendH1 hp g hin (renV g x) x := by
  intro w0 mu N tm w phi ro v hS hv
  exact simV_in true g (ctxE w (fun r => phi (g r)) hin) (ctx w0 w ro phi ⟨fun _ => .any, hp⟩) rfl (fun _ b hb => not_lent hin1 hS hb) (fun _ => rfl) (fun _ r _ => rfl) x v ho hr hv
/-- A region of mine that is not lent is read. -/
theorem lendH_sl {hp : Hp} {g : Nat → Nat} {hin : Hp} {q : Nat} {M : List Int} (hin1 : ∀ r c, hin r = some c → (hp (g r)).isSome = true) (hq : hp q = some (true, M.map AV.i)) (hne : ∀ r, (hin r).isSome = true → g r ≠ q) : LendH1 hp g hin (.sl q 1 0 M.length) (ints M) := by
  intro w0 mu N tm w phi ro v hS h
  simp only [SimV] at h ⊢
  rcases h.2.2 with ⟨h1, _, h3, h4⟩ | ⟨b, o, cap, cur, e, h1, h2, h3, h4, h5, h6, h7⟩
  · exact .inl ⟨h3, by rw [List.eq_nil_of_length_eq_zero h3]; rfl, none, 0, by rw [h4], by simp⟩
  · by_cases hn : M.length = 0
    · exact .inl ⟨hn, by rw [List.eq_nil_of_length_eq_zero hn]; rfl, some ⟨b, o, none⟩, cap, by rw [h2, hn], by simp⟩
    · have ho : o = 0 := by
        rcases h4 with h4 | h4
        · exact h4
        · exact absurd h4.1 hn
      subst ho
      have h1' : phi q = some b := h1
      have h3' : w.heap[b]? = some (.cells cur e (0, 0)) := h3
      rcases hS.liv q _ hq with ⟨h8, _⟩ | ⟨b', cur', e', h8, h9, h10, h11, h12⟩ | ⟨b', o', _, h8, h9, h10, _⟩
      · rw [h8] at h1'; cases h1'
      case inr.inr => exact ob_not_cells h8 h9 h10 h1 h3
      · rw [h8] at h1'
        cases h1'
        rw [h9] at h3'
        cases h3'
        refine .inr ⟨b, 0, cap, cur, e, (0, 0), h2, h9, ⟨lt_of_get h9, fun r hr hp' => ?_⟩, by simp, h5, by simp, ?_⟩
        · obtain ⟨c, hc⟩ := Option.isSome_iff_exists.1 hr
          exact hne r hr (hS.inj _ _ b (hin1 r c hc) (by show (hp q).isSome = true; rw [hq]; rfl) hp' h8)
        · simp only [SimR, if_true] at h12
          rw [List.drop_zero]
          exact simL_allv (allv_ints M) h12
end Go.Am
namespace Go.Am
theorem ret_doneT {s : AS} {ts : List Nat} {res : AV} {hin hout : Hp} (g : Nat → Nat) (h1 : resAV s ts = renV g res) (h2 : ∀ r c, hout r = some c → ∃ c0, s.hp (g r) = some c0 ∧ (c0 = renR g c ∨ (c.2 = [] ∧ c0.2 = []))) (h3 : ∀ r, (hin r).isSome = true → r < gvb → g r = r ∧ (hout r).isSome = true)
    (h4 : ∀ r, (hout r).isSome = true → hin r = none → g r < pbase) (h5 : ∀ r r', (hout r).isSome = true → (hout r').isSome = true → g r = g r' → r = r') (h6 : ∀ r, (hout r).isSome = true → r < gvb) : DoneT ts res hin hout .ret s := ⟨g, h1, h2, h3, h4, h5, h6⟩
theorem normal_doneT {s : AS} {ts : List Nat} {res : AV} {hin hout : Hp} (h : DoneT ts res hin hout .ret s) : DoneT ts res hin hout .normal s := h
section
attribute [local irreducible] SpH DoneH SpG DoneT
/-- The cell with the lists; they and a list more are given; they are handed out. -/
abbrev tyC (r n : Nat) : Bool × List AV := (false, [.sl r 1 0 n])
def hinA (P R : List (List Int)) : Hp := famH (look [(pbase, tyC gvb P.length), (gvb, (false, rowsC (gvb + 1) P))]) (gvb + 1) R
def houtA (P : List (List Int)) : Hp := famH (look [(pbase, tyC nbase P.length), (nbase, (false, rowsC (nbase + 1) P))]) (nbase + 1) P
def stA (l : List (Nat × AV)) (P R : List (List Int)) : AS := stG l [(pbase, tyC 900 P.length), (900, (false, rowsC 1000 P))] 1000 R
/-- So many lists at most. -/
def mxA : Nat := 1000000
theorem look2 {β : Type} {a b r : Nat} {x y v : β} (h : look [(a, x), (b, y)] r = some v) : (r = a ∧ v = x) ∨ (r = b ∧ v = y) := by
  simp only [look] at h
  split at h
  · exact .inl ⟨by assumption, (Option.some.inj h).symm⟩
  · split at h
    · exact .inr ⟨by assumption, (Option.some.inj h).symm⟩
    · cases h
theorem look2_none {β : Type} {a b r : Nat} {x y : β} (h1 : r ≠ a) (h2 : r ≠ b) : look [(a, x), (b, y)] r = none := by
  simp only [look, if_neg h1, if_neg h2]
theorem hinA_some {P R : List (List Int)} {r : Nat} {c : Bool × List AV} (h : hinA P R r = some c) : (r = pbase ∧ c = tyC gvb P.length) ∨ (r = gvb ∧ c = (false, rowsC (gvb + 1) P)) ∨ ∃ j, j < R.length ∧ r = gvb + 1 + j ∧ c = (true, (R.getD j []).map AV.i) := by
  rcases famH_some h with h1 | ⟨_, j, h2, h3, h4⟩
  · rcases look2 h1 with h | h
    · exact .inl h
    · exact .inr (.inl h)
  · exact .inr (.inr ⟨j, h2, h3, h4⟩)
theorem houtA_some {P : List (List Int)} {r : Nat} {c : Bool × List AV} (h : houtA P r = some c) : (r = pbase ∧ c = tyC nbase P.length) ∨ (r = nbase ∧ c = (false, rowsC (nbase + 1) P)) ∨ ∃ j, j < P.length ∧ r = nbase + 1 + j ∧ c = (true, (P.getD j []).map AV.i) := by
  rcases famH_some h with h1 | ⟨_, j, h2, h3, h4⟩
  · rcases look2 h1 with h | h
    · exact .inl h
    · exact .inr (.inl h)
  · exact .inr (.inr ⟨j, h2, h3, h4⟩)
theorem hinA_row {P R : List (List Int)} {j : Nat} (hj : j < R.length) : hinA P R (gvb + 1 + j) = some (true, (R.getD j []).map AV.i) := by
  have hp : pbase = 4000000 := rfl
  have hg : gvb = 16000000 := rfl
  exact famH_row (look2_none (by omega) (by omega)) hj
theorem houtA_row {P : List (List Int)} {j : Nat} (hj : j < P.length) : houtA P (nbase + 1 + j) = some (true, (P.getD j []).map AV.i) := by
  have hp : pbase = 4000000 := rfl
  have hg : nbase = 8000000 := rfl
  exact famH_row (look2_none (by omega) (by omega)) hj
theorem stA_row {l : List (Nat × AV)} {P R : List (List Int)} {j : Nat} (hj : j < R.length) (h2 : R.length ≤ mxA + 1) : (stA l P R).hp (1000 + j) = some (true, (R.getD j []).map AV.i) := by
  have hp : pbase = 4000000 := rfl
  have hx : mxA = 1000000 := rfl
  exact famH_row (look2_none (by omega) (by omega)) hj
theorem stA_static (P R P' : List (List Int)) : Static (hinA P R) (.tup []) (houtA P') := by
  have hp : pbase = 4000000 := rfl
  have hn : nbase = 8000000 := rfl
  have hg : gvb = 16000000 := rfl
  refine ⟨fun r hr => ?_, fun r c hc => ?_, by simp [ownV, ownL, refsV, refsL]⟩
  · obtain ⟨c, hc⟩ := Option.isSome_iff_exists.1 hr
    rcases hinA_some hc with ⟨rfl, _⟩ | ⟨rfl, _⟩ | ⟨j, _, rfl, _⟩ <;> omega
  · rcases houtA_some hc with ⟨_, rfl⟩ | ⟨_, rfl⟩ | ⟨j, _, _, rfl⟩
    · exact ⟨rfl, rfl⟩
    · refine ⟨rowsC_own _ _ _, rowsC_refs _ _ _ fun j hj => ?_⟩
      rw [houtA_row hj]; rfl
    · exact ⟨ownL_ints _ _, refsL_ints _ _⟩
/-- The call's own names for what it is given. -/
def nmA : Nat → Nat := fun r => if r = 900 then gvb else if 1000 ≤ r ∧ r < pbase then gvb + 1 + (r - 1000) else r
theorem nmA_row {j : Nat} (h : j < mxA + 2) : nmA (1000 + j) = gvb + 1 + j := by
  have hp : pbase = 4000000 := rfl
  have hx : mxA = 1000000 := rfl
  unfold nmA
  rw [if_neg (by omega), if_pos (by omega), Nat.add_sub_cancel_left]
theorem stA_enter {av : List AV} {l : List (Nat × AV)} {P R : List (List Int)} (hR : R.length ≤ mxA + 1) (hPR : P.length ≤ R.length) (hl : HasF (enterH av (hinA P R)) nmA l) (hr : refsT (fun r => (famH (look [(pbase, tyC 900 P.length), (900, (false, rowsC 1000 P))]) 1000 R r).isSome) l = true) : Weak (enterH av (hinA P R)) (stA l P R) := by
  have hp : pbase = 4000000 := rfl
  have hg : gvb = 16000000 := rfl
  have hx : mxA = 1000000 := rfl
  refine weak_G nmA hl ⟨rfl, ?_, trivial⟩ (fun j hj => ?_) (show [nmA pbase, nmA 900].Nodup by decide) (fun j j' h1 h2 e => ?_) (fun p hm j hj => ?_) (fun p hm => ?_) (fun j hj => ?_) hr (fun p hm hf => ?_)
  · show hinA P R (nmA 900) = some (false, renL nmA (rowsC 1000 P))
    rw [rowsC_ren nmA 1000 (gvb + 1) P fun j hj => nmA_row (by omega)]
    rfl
  · rw [nmA_row (by omega)]
    exact hinA_row hj
  · rw [nmA_row (by omega), nmA_row (by omega)] at e
    omega
  · rw [nmA_row (by omega)]
    simp only [List.mem_cons, List.not_mem_nil, or_false] at hm
    rcases hm with rfl | rfl
    · show nmA pbase ≠ _
      have : nmA pbase = pbase := by decide
      omega
    · show nmA 900 ≠ _
      have : nmA 900 = gvb := by decide
      omega
  · simp only [List.mem_cons, List.not_mem_nil, or_false] at hm
    rcases hm with rfl | rfl
    · exact .inr (.inl ⟨by show pbase ≤ pbase; omega, show nmA pbase = pbase by decide⟩)
    · exact .inr (.inr ⟨by show 900 < pbase; omega, show gvb ≤ nmA 900 by decide⟩)
  · rw [nmA_row (by omega)]
    exact .inr (.inr ⟨by omega, by omega⟩)
  · simp only [List.mem_cons, List.not_mem_nil, or_false] at hm
    rcases hm with rfl | rfl
    · rfl
    · refine rowsC_refs _ _ _ fun j hj => ?_
      show (famH _ 1000 R (1000 + j)).isSome = true
      rw [famH_row (look2_none (by omega) (by omega)) (by omega)]
      rfl
/-- The end: the lists lie in the region q. -/
theorem stA_done {s : AS} {P R P' : List (List Int)} {q : Nat} (hq : q < 1000) (hP : P'.length ≤ mxA) (h1 : s.hp pbase = some (tyC q P'.length)) (h2 : s.hp q = some (false, rowsC 1000 P')) (h3 : ∀ j, j < P'.length → s.hp (1000 + j) = some (true, (P'.getD j []).map AV.i)) : DoneT [] (.tup []) (hinA P R) (houtA P') .ret s := by
  have hp : pbase = 4000000 := rfl
  have hn : nbase = 8000000 := rfl
  have hg : gvb = 16000000 := rfl
  have hx : mxA = 1000000 := rfl
  have g0 : ∀ r, r < nbase → (if r = nbase then q else if nbase + 1 ≤ r then 1000 + (r - (nbase + 1)) else r) = r := fun r hr => by rw [if_neg (by omega), if_neg (by omega)]
  have g1 : ∀ j, (if nbase + 1 + j = nbase then q else if nbase + 1 ≤ nbase + 1 + j then 1000 + (nbase + 1 + j - (nbase + 1)) else nbase + 1 + j) = 1000 + j := fun j => by rw [if_neg (by omega), if_pos (by omega), Nat.add_sub_cancel_left]
  refine ret_doneT (fun r => if r = nbase then q else if nbase + 1 ≤ r then 1000 + (r - (nbase + 1)) else r) (by rfl) (fun r c hc => ?_) (fun r hr hlt => ?_) (fun r hr hno => ?_) (fun r r' hr hr' e => ?_) (fun r hr => ?_)
  · rcases houtA_some hc with ⟨rfl, rfl⟩ | ⟨rfl, rfl⟩ | ⟨j, hj, rfl, rfl⟩
    · refine ⟨_, by rw [g0 _ (by omega)]; exact h1, .inl ?_⟩
      simp only [renR, renL, renV, if_true]
    · refine ⟨_, by rw [if_pos rfl]; exact h2, .inl ?_⟩
      simp only [renR]
      rw [rowsC_ren _ (nbase + 1) 1000 P' fun j hj => g1 j]
    · refine ⟨_, by rw [g1]; exact h3 j hj, .inl ?_⟩
      simp only [renR]
      rw [renL_ints]
  · obtain ⟨c, hc⟩ := Option.isSome_iff_exists.1 hr
    rcases hinA_some hc with ⟨rfl, _⟩ | ⟨rfl, _⟩ | ⟨j, _, rfl, _⟩
    · exact ⟨g0 _ (by omega), rfl⟩
    · omega
    · omega
  · obtain ⟨c, hc⟩ := Option.isSome_iff_exists.1 hr
    rcases houtA_some hc with ⟨rfl, _⟩ | ⟨rfl, _⟩ | ⟨j, hj, rfl, _⟩
    · have e : hinA P R pbase = some (tyC gvb P.length) := rfl
      rw [e] at hno; cases hno
    · show (if nbase = nbase then q else _) < _
      rw [if_pos rfl]; omega
    · show (if nbase + 1 + j = nbase then q else _) < _
      rw [g1]; omega
  · obtain ⟨c, hc⟩ := Option.isSome_iff_exists.1 hr
    obtain ⟨c', hc'⟩ := Option.isSome_iff_exists.1 hr'
    rcases houtA_some hc with ⟨rfl, _⟩ | ⟨rfl, _⟩ | ⟨j, hj, rfl, _⟩ <;> rcases houtA_some hc' with ⟨rfl, _⟩ | ⟨rfl, _⟩ | ⟨j', hj', rfl, _⟩ <;> (repeat' split at e) <;> omega
  · obtain ⟨c, hc⟩ := Option.isSome_iff_exists.1 hr
    rcases houtA_some hc with ⟨rfl, _⟩ | ⟨rfl, _⟩ | ⟨j, hj, rfl, _⟩ <;> omega
/-- The callee's names for what the caller has; X is the list that was made for the call. -/
def nmB (X n : Nat) : Nat → Nat := fun r => if r = gvb then 900 else if gvb + 1 ≤ r then (if r - (gvb + 1) < n then 1000 + (r - (gvb + 1)) else X) else if r = nbase then 900 else if nbase + 1 ≤ r then 1000 + (r - (nbase + 1)) else r
/-- What is given, and the list that was made for the call. -/
def gvA (X : Nat) : Nat → Bool := fun r => r == 900 || (decide (1000 ≤ r) && decide (r < pbase)) || r == X
theorem nmB_row {X n j : Nat} (h : j < n) : nmB X n (gvb + 1 + j) = 1000 + j := by
  unfold nmB
  rw [if_neg (by omega), if_pos (by omega), Nat.add_sub_cancel_left, if_pos h]
theorem nmB_new (X n : Nat) : nmB X n (gvb + 1 + n) = X := by
  unfold nmB
  rw [if_neg (by omega), if_pos (by omega), Nat.add_sub_cancel_left, if_neg (by omega)]
theorem nmB_out {X n j : Nat} (h : j < mxA + 2) : nmB X n (nbase + 1 + j) = 1000 + j := by
  have hn : nbase = 8000000 := rfl
  have hg : gvb = 16000000 := rfl
  have hx : mxA = 1000000 := rfl
  unfold nmB
  rw [if_neg (by omega), if_neg (by omega), if_neg (by omega), if_pos (by omega), Nat.add_sub_cancel_left]
theorem nmB_0 (X n : Nat) : nmB X n pbase = pbase ∧ nmB X n gvb = 900 ∧ nmB X n nbase = 900 := by
  have hp : pbase = 4000000 := rfl
  have hn : nbase = 8000000 := rfl
  have hg : gvb = 16000000 := rfl
  unfold nmB
  exact ⟨by rw [if_neg (by omega), if_neg (by omega), if_neg (by omega), if_neg (by omega)], by rw [if_pos rfl], by rw [if_neg (by omega), if_neg (by omega), if_pos rfl]⟩
/-- The caller's regions behind the call. -/
def hpA (X : Nat) (s : AS) (P' : List (List Int)) : Hp := fun q => if q = pbase then some (tyC 900 P'.length) else if q = 900 then some (false, rowsC 1000 P') else if 1000 ≤ q ∧ q < 1000 + P'.length then some (true, (P'.getD (q - 1000) []).map AV.i) else (s.drop (gvA X)).hp q
theorem hpA_at (X : Nat) (s : AS) (P' : List (List Int)) : hpA X s P' pbase = some (tyC 900 P'.length) ∧ hpA X s P' 900 = some (false, rowsC 1000 P') := ⟨rfl, rfl⟩
theorem hpA_row {X : Nat} {s : AS} {P' : List (List Int)} {j : Nat} (hj : j < P'.length) (h2 : P'.length ≤ mxA) : hpA X s P' (1000 + j) = some (true, (P'.getD j []).map AV.i) := by
  have hp : pbase = 4000000 := rfl
  have hx : mxA = 1000000 := rfl
  unfold hpA
  rw [if_neg (by omega), if_neg (by omega), if_pos (by omega), Nat.add_sub_cancel_left]
theorem gvA_row {X j : Nat} (h : j < mxA + 2) : gvA X (1000 + j) = true := by
  have hp : pbase = 4000000 := rfl
  have hx : mxA = 1000000 := rfl
  unfold gvA
  rw [decide_eq_true (show 1000 ≤ 1000 + j by omega), decide_eq_true (show 1000 + j < pbase by omega)]
  simp
theorem stA_given {X : Nat} {s : AS} {P R P' : List (List Int)} (hX : X < 900) (hP : P.length ≤ mxA) (hR : R.length ≤ P.length + 1) (hP' : P'.length ≤ mxA) (h1 : s.hp pbase = some (tyC 900 P.length)) (h2 : s.hp 900 = some (false, rowsC 1000 P)) (h3 : ∀ j, j < R.length → s.hp (nmB X P.length (gvb + 1 + j)) = some (true, (R.getD j []).map AV.i)) (hPR : P.length ≤ R.length) :
    Given s (gvA X) (nmB X P.length) (hinA P R) (houtA P') (hpA X s P') (.tup []) := by
  have hp : pbase = 4000000 := rfl
  have hn : nbase = 8000000 := rfl
  have hg : gvb = 16000000 := rfl
  have hx : mxA = 1000000 := rfl
  obtain ⟨g1, g2, g3⟩ := nmB_0 X P.length
  have grow : ∀ j, j < R.length → (nmB X P.length (gvb + 1 + j) = 1000 + j ∧ j < P.length) ∨ (nmB X P.length (gvb + 1 + j) = X ∧ j = P.length) := by
    intro j hj
    by_cases h : j < P.length
    · exact .inl ⟨nmB_row h, h⟩
    · obtain rfl : j = P.length := by omega
      exact .inr ⟨nmB_new _ _, rfl⟩
  have gout : ∀ j, j < P'.length → nmB X P.length (nbase + 1 + j) = 1000 + j := fun j hj => nmB_out (by omega)
  have qX : gvA X X = true := by simp [gvA]
  have q900 : gvA X 900 = true := rfl
  have qp : gvA X pbase = false := by
    unfold gvA
    simp only [Bool.or_eq_false_iff, Bool.and_eq_false_iff, beq_eq_false_iff_ne, decide_eq_false_iff_not]
    omega
  have hinS : ∀ r, (hinA P R r).isSome = true → r = pbase ∨ r = gvb ∨ ∃ j, j < R.length ∧ r = gvb + 1 + j := by
    intro r hr
    obtain ⟨c, hc⟩ := Option.isSome_iff_exists.1 hr
    rcases hinA_some hc with ⟨h, _⟩ | ⟨h, _⟩ | ⟨j, h, h', _⟩
    · exact .inl h
    · exact .inr (.inl h)
    · exact .inr (.inr ⟨j, h, h'⟩)
  have houtS : ∀ r, (houtA P' r).isSome = true → r = pbase ∨ r = nbase ∨ ∃ j, j < P'.length ∧ r = nbase + 1 + j := by
    intro r hr
    obtain ⟨c, hc⟩ := Option.isSome_iff_exists.1 hr
    rcases houtA_some hc with ⟨h, _⟩ | ⟨h, _⟩ | ⟨j, h, h', _⟩
    · exact .inl h
    · exact .inr (.inl h)
    · exact .inr (.inr ⟨j, h, h'⟩)
  have hinV : ∀ r, (hinA P R r).isSome = true → (r = pbase ∧ nmB X P.length r = pbase) ∨ (r = gvb ∧ nmB X P.length r = 900) ∨ (∃ j, j < P.length ∧ r = gvb + 1 + j ∧ nmB X P.length r = 1000 + j) ∨ (r = gvb + 1 + P.length ∧ nmB X P.length r = X) := by
    intro r hr
    rcases hinS r hr with h | h | ⟨j, hj, h⟩
    · exact .inl ⟨h, by rw [h]; exact g1⟩
    · exact .inr (.inl ⟨h, by rw [h]; exact g2⟩)
    · rcases grow j hj with ⟨e, h'⟩ | ⟨e, h'⟩
      · exact .inr (.inr (.inl ⟨j, h', h, by rw [h]; exact e⟩))
      · exact .inr (.inr (.inr ⟨by rw [h, h'], by rw [h]; exact e⟩))
  have houtV : ∀ r, (houtA P' r).isSome = true → (r = pbase ∧ nmB X P.length r = pbase) ∨ (r = nbase ∧ nmB X P.length r = 900) ∨ ∃ j, j < P'.length ∧ r = nbase + 1 + j ∧ nmB X P.length r = 1000 + j := by
    intro r hr
    rcases houtS r hr with h | h | ⟨j, hj, h⟩
    · exact .inl ⟨h, by rw [h]; exact g1⟩
    · exact .inr (.inl ⟨h, by rw [h]; exact g3⟩)
    · exact .inr (.inr ⟨j, hj, h, by rw [h]; exact gout j hj⟩)
  refine ⟨fun r c hc => ?_, fun r hr => ?_, fun r hr hge => ?_, fun r r' hr hr' e => ?_, fun r r' hr hr' e => ?_, fun r hr hlt => ?_, fun r hr => ?_, fun r hr hno => ?_, fun r c hc => ?_, fun q hq => ?_, fun r c hc => ?_, fun r c hc => ?_, rfl⟩
  · rcases hinA_some hc with ⟨rfl, rfl⟩ | ⟨rfl, rfl⟩ | ⟨j, hj, rfl, rfl⟩
    · rw [g1, h1]
      simp only [renR, renL, renV, g2]
    · rw [g2, h2]
      simp only [renR]
      rw [rowsC_ren _ (gvb + 1) 1000 P fun j hj => nmB_row hj]
    · rw [h3 j hj]
      simp only [renR]
      rw [renL_ints]
  · rcases hinS r hr with rfl | rfl | ⟨j, hj, rfl⟩
    · rw [g1, qp]
      exact ⟨fun h => (by cases h), fun h => by omega⟩
    · rw [g2]
      exact ⟨fun _ => Nat.le_refl _, fun _ => q900⟩
    · refine ⟨fun _ => by omega, fun _ => ?_⟩
      rcases grow j hj with ⟨e, h⟩ | ⟨e, _⟩
      · rw [e]; exact gvA_row (by omega)
      · rw [e]; exact qX
  · refine .inl ?_
    rcases hinS r hr with rfl | rfl | ⟨j, hj, rfl⟩
    · omega
    · rw [g2]; omega
    · rcases grow j hj with ⟨e, h⟩ | ⟨e, _⟩
      · rw [e]; omega
      · rw [e]; omega
  · rcases hinV r hr with ⟨a, b⟩ | ⟨a, b⟩ | ⟨j, h, a, b⟩ | ⟨a, b⟩ <;> rcases hinV r' hr' with ⟨a', b'⟩ | ⟨a', b'⟩ | ⟨j', h', a', b'⟩ | ⟨a', b'⟩ <;> omega
  · rcases houtV r hr with ⟨a, b⟩ | ⟨a, b⟩ | ⟨j, h, a, b⟩ <;> rcases houtV r' hr' with ⟨a', b'⟩ | ⟨a', b'⟩ | ⟨j', h', a', b'⟩ <;> omega
  · rcases hinS r hr with rfl | rfl | ⟨j, hj, rfl⟩
    · rfl
    · omega
    · omega
  · rcases houtS r hr with rfl | rfl | ⟨j, hj, rfl⟩ <;> omega
  · have drop : ∀ q, gvA X q = true → (s.drop (gvA X)).hp q = none := fun q h => by
      show (if gvA X q = true then none else (s.hp q).map (dropR (gvA X))) = none
      rw [if_pos h]
    rcases houtS r hr with rfl | rfl | ⟨j, hj, rfl⟩
    · have e : hinA P R pbase = some (tyC gvb P.length) := rfl
      rw [e] at hno; cases hno
    · rw [g3]
      exact ⟨drop _ q900, by omega⟩
    · rw [gout j hj]
      exact ⟨drop _ (gvA_row (by omega)), by omega⟩
  · obtain ⟨k1, k2⟩ := hpA_at X s P'
    rcases houtA_some hc with ⟨rfl, rfl⟩ | ⟨rfl, rfl⟩ | ⟨j, hj, rfl, rfl⟩
    · rw [g1, k1]
      simp only [renR, renL, renV, g3]
    · rw [g3, k2]
      simp only [renR]
      rw [rowsC_ren _ (nbase + 1) 1000 P' fun j hj => gout j hj]
    · rw [gout j hj, hpA_row hj hP']
      simp only [renR]
      rw [renL_ints]
  · have k1 := hq pbase rfl
    have k2 := hq nbase rfl
    rw [g1] at k1
    rw [g3] at k2
    unfold hpA
    rw [if_neg (Ne.symm k1), if_neg (Ne.symm k2), if_neg]
    rintro ⟨h4, h5⟩
    have := hq (nbase + 1 + (q - 1000)) (by rw [houtA_row (by omega)]; rfl)
    rw [gout _ (by omega)] at this
    omega
  · rcases hinA_some hc with ⟨rfl, rfl⟩ | ⟨rfl, rfl⟩ | ⟨j, hj, rfl, rfl⟩
    · exact ⟨rfl, rfl⟩
    · refine ⟨rowsC_own _ _ _, rowsC_refs _ _ _ fun j hj => ?_⟩
      rw [hinA_row (by omega)]; rfl
    · exact ⟨ownL_ints _ _, refsL_ints _ _⟩
  · rcases houtA_some hc with ⟨rfl, rfl⟩ | ⟨rfl, rfl⟩ | ⟨j, hj, rfl, rfl⟩
    · rfl
    · exact rowsC_own _ _ _
    · exact ownL_ints _ _
end
end Go.Am
namespace Go.Am
section
attribute [local irreducible] SpH DoneH SpG DoneT
theorem stA_weak {s : AS} {l : List (Nat × AV)} {P : List (List Int)} (hP : P.length ≤ mxA) (hl : HasF s id l) (h1 : s.hp pbase = some (tyC 900 P.length)) (h2 : s.hp 900 = some (false, rowsC 1000 P)) (h3 : ∀ j, j < P.length → s.hp (1000 + j) = some (true, (P.getD j []).map AV.i)) (hr : refsT (fun r => (famH (look [(pbase, tyC 900 P.length), (900, (false, rowsC 1000 P))]) 1000 P r).isSome) l = true) : Weak s (stA l P P) := by
  have hp : pbase = 4000000 := rfl
  have hx : mxA = 1000000 := rfl
  refine weak_G id hl ⟨h1, ?_, trivial⟩ h3 (show [pbase, 900].Nodup by decide) (fun j j' _ _ e => by simp only [id] at e; omega) (fun p hm j hj => ?_) (fun p hm => ?_) (fun j hj => .inl ⟨by omega, by simp only [id]; omega⟩) hr (fun p hm hf => ?_)
  · rw [renL_id]; exact h2
  · simp only [List.mem_cons, List.not_mem_nil, or_false] at hm
    rcases hm with rfl | rfl <;> simp only [id] <;> omega
  · simp only [List.mem_cons, List.not_mem_nil, or_false] at hm
    rcases hm with rfl | rfl
    · exact .inr (.inl ⟨by show pbase ≤ pbase; omega, rfl⟩)
    · exact .inl ⟨by show 900 < pbase; omega, by show 900 < pbase; omega⟩
  · simp only [List.mem_cons, List.not_mem_nil, or_false] at hm
    rcases hm with rfl | rfl
    · rfl
    · refine rowsC_refs _ _ _ fun j hj => ?_
      show (famH _ 1000 P (1000 + j)).isSome = true
      rw [famH_row (look2_none (by omega) (by omega)) (by omega)]
      rfl
theorem stA_weakR {s : AS} {l : List (Nat × AV)} {P R : List (List Int)} (hPR : P.length ≤ R.length) (hR : R.length ≤ mxA + 1) (hl : HasF s id l) (h1 : s.hp pbase = some (tyC 900 P.length)) (h2 : s.hp 900 = some (false, rowsC 1000 P)) (h3 : ∀ j, j < R.length → s.hp (1000 + j) = some (true, (R.getD j []).map AV.i)) (hr : refsT (fun r => (famH (look [(pbase, tyC 900 P.length), (900, (false, rowsC 1000 P))]) 1000 R r).isSome) l = true) : Weak s (stA l P R) := by
  have hp : pbase = 4000000 := rfl
  have hx : mxA = 1000000 := rfl
  refine weak_G id hl ⟨h1, ?_, trivial⟩ h3 (show [pbase, 900].Nodup by decide) (fun j j' _ _ e => by simp only [id] at e; omega) (fun p hm j hj => ?_) (fun p hm => ?_) (fun j hj => .inl ⟨by omega, by simp only [id]; omega⟩) hr (fun p hm hf => ?_)
  · rw [renL_id]; exact h2
  · simp only [List.mem_cons, List.not_mem_nil, or_false] at hm
    rcases hm with rfl | rfl <;> simp only [id] <;> omega
  · simp only [List.mem_cons, List.not_mem_nil, or_false] at hm
    rcases hm with rfl | rfl
    · exact .inr (.inl ⟨by show pbase ≤ pbase; omega, rfl⟩)
    · exact .inl ⟨by show 900 < pbase; omega, by show 900 < pbase; omega⟩
  · simp only [List.mem_cons, List.not_mem_nil, or_false] at hm
    rcases hm with rfl | rfl
    · rfl
    · refine rowsC_refs _ _ _ fun j hj => ?_
      show (famH _ 1000 R (1000 + j)).isSome = true
      rw [famH_row (look2_none (by omega) (by omega)) (by omega)]
      rfl
/-- What is lent and given beside the lists: values that are read; the pointer; a list that is made for the call. -/
theorem lendH_pt {X : Nat} {s : AS} {P R P' : List (List Int)} (hG : Given s (gvA X) (nmB X P.length) (hinA P R) (houtA P') (hpA X s P') (.tup [])) : LendH1 s.hp (nmB X P.length) (hinA P R) (.pt pbase 0) (.pt pbase 0) := by
  have hin1 : ∀ r c, hinA P R r = some c → (s.hp (nmB X P.length r)).isSome = true := fun r c hc => by rw [hG.has r c hc]; rfl
  have := lendH_ren (x := .pt pbase 0) hin1 rfl rfl
  simp only [renV, (nmB_0 X P.length).1] at this
  exact this
theorem lendH_ro {X : Nat} {s : AS} {P R P' : List (List Int)} (hG : Given s (gvA X) (nmB X P.length) (hinA P R) (houtA P') (hpA X s P') (.tup [])) {x : AV} (ho : ownV true x = true) (hr : refsV (fun r => (hinA P R r).isSome) x = true) (hn : renV (nmB X P.length) x = x) : LendH1 s.hp (nmB X P.length) (hinA P R) x x := by
  have hin1 : ∀ r c, hinA P R r = some c → (s.hp (nmB X P.length r)).isSome = true := fun r c hc => by rw [hG.has r c hc]; rfl
  have := lendH_ren (x := x) hin1 ho hr
  rw [hn] at this
  exact this
theorem lendH_leaf {X : Nat} {s : AS} {P P' : List (List Int)} {M : List Int} (hG : Given s (gvA X) (nmB X P.length) (hinA P (P ++ [M])) (houtA P') (hpA X s P') (.tup [])) : LendH1 s.hp (nmB X P.length) (hinA P (P ++ [M])) (.sl X 1 0 M.length) (.sl (gvb + 1 + P.length) 1 0 M.length) := by
  have hin1 : ∀ r c, hinA P (P ++ [M]) r = some c → (s.hp (nmB X P.length r)).isSome = true := fun r c hc => by rw [hG.has r c hc]; rfl
  have := lendH_ren (x := .sl (gvb + 1 + P.length) 1 0 M.length) hin1 rfl (by
    simp only [refsV]
    rw [hinA_row (by simp)]
    rfl)
  simp only [renV, nmB_new] at this
  exact this
theorem lendH_node {X : Nat} (hX : X < 900) {s : AS} {P P' : List (List Int)} {M : List Int} (_hP : P.length ≤ mxA) (hG : Given s (gvA X) (nmB X P.length) (hinA P P) (houtA P') (hpA X s P') (.tup [])) (hM : s.hp X = some (true, M.map AV.i)) : LendH1 s.hp (nmB X P.length) (hinA P P) (.sl X 1 0 M.length) (ints M) := by
  have hpb : pbase = 4000000 := rfl
  have hin1 : ∀ r c, hinA P P r = some c → (s.hp (nmB X P.length r)).isSome = true := fun r c hc => by rw [hG.has r c hc]; rfl
  refine lendH_sl hin1 hM fun r hr e => ?_
  obtain ⟨c, hc⟩ := Option.isSome_iff_exists.1 hr
  obtain ⟨g1, g2, _⟩ := nmB_0 X P.length
  rcases hinA_some hc with ⟨rfl, _⟩ | ⟨rfl, _⟩ | ⟨j, hj, rfl, _⟩
  · rw [g1] at e; omega
  · rw [g2] at e; omega
  · rw [nmB_row hj] at e; omega
theorem stA_givenN {X : Nat} {s : AS} {P P' : List (List Int)} (hX : X < 900) (hP : P.length ≤ mxA) (hP' : P'.length ≤ mxA) (h1 : s.hp pbase = some (tyC 900 P.length)) (h2 : s.hp 900 = some (false, rowsC 1000 P)) (h3 : ∀ j, j < P.length → s.hp (1000 + j) = some (true, (P.getD j []).map AV.i)) :
    Given s (gvA X) (nmB X P.length) (hinA P P) (houtA P') (hpA X s P') (.tup []) :=
  stA_given hX hP (by omega) hP' h1 h2 (fun j hj => by rw [nmB_row hj]; exact h3 j hj) (Nat.le_refl _)
theorem stA_givenL {X : Nat} {s : AS} {P P' : List (List Int)} {M : List Int} (hX : X < 900) (hP : P.length ≤ mxA) (hP' : P'.length ≤ mxA) (h1 : s.hp pbase = some (tyC 900 P.length)) (h2 : s.hp 900 = some (false, rowsC 1000 P)) (h3 : ∀ j, j < P.length → s.hp (1000 + j) = some (true, (P.getD j []).map AV.i)) (hM : s.hp X = some (true, M.map AV.i)) :
    Given s (gvA X) (nmB X P.length) (hinA P (P ++ [M])) (houtA P') (hpA X s P') (.tup []) := by
  refine stA_given hX hP (by simp) hP' h1 h2 (fun j hj => ?_) (by simp)
  by_cases hj' : j < P.length
  · rw [nmB_row hj', h3 j hj']
    simp [List.getElem?_append, hj']
  · have : j = P.length := by simp at hj; omega
    subst this
    rw [nmB_new, hM]
    simp
/-- A nil slice in a cell is a slice of an empty region. -/
theorem weak_nilcellG {s : AS} (fl : Bool) (r q z j : Nat) {cs : List AV} (hr : s.hp r = some (true, cs)) (hq : s.hp q = none) (hqp : q < pbase) (hc : cs[j]? = some (.v (.slice none 0 0))) (hpl : cs.all plainV = true) :
    Weak s ((s.mem q (fl, [])).mem r (false, cs.set j (.sl q z 0 0))) := by
  have hrq : r ≠ q := fun e => by rw [e] at hr; rw [hr] at hq; cases hq
  have hr' : (s.mem q (fl, [])).hp r = some (true, cs) := by rw [hp_mem_ne hrq]; exact hr
  intro w0 mu N a w hS
  obtain ⟨hf, phi, ro, hS⟩ := hS
  have hS1 := hS.born hq hqp (fl, []) none rfl
  rcases hS1.liv r _ hr' with ⟨_, h2, _⟩ | ⟨b, cur, e, h1, h2, h3, h4, h5⟩ | ⟨b, o, h0, _⟩
  case inr.inr => cases h0; simp [plainV] at hpl
  · simp only at h2; rw [h2] at hc; simp at hc
  · refine ⟨hf, _, ro, hS1.write hr' h1 h2 h2 rfl (fun _ _ _ => rfl) rfl rfl rfl (Nat.le_refl _) ?_⟩
    simp only [SimR, if_true, Bool.false_eq_true, if_false] at h5 ⊢
    have h6 := simL_allv (D := ctx w0 w ro (fun p => if p = q then none else phi p) (s.mem q (fl, []))) hpl h5
    obtain ⟨y, k1, k2⟩ := h6.get hc
    simp only [SimV] at k2
    subst k2
    have hlt : j < cs.length := (List.getElem?_eq_some_iff.1 hc).1
    have h7 := h6.set (i := j) (a := .sl q z 0 0) (y := .slice none 0 0) (by simp only [SimV]; exact ⟨rfl, by simp [ctx, AS.mem], .inl (by simp [ctx])⟩) hlt
    have e2 : cur.toList.set j (.slice none 0 0) = cur.toList := by
      apply List.ext_getElem?
      intro i
      rw [List.getElem?_set]
      by_cases e : j = i
      · subst e
        have := (List.getElem?_eq_some_iff.1 k1).1
        simp only [if_true, this, k1]
      · simp [e]
    rw [e2] at h7
    exact h7
/-- Names at the first call: the pointer's region is q0. -/
def nmR (q0 : Nat) : Nat → Nat := fun r => if r = pbase then q0 else if r = gvb then 900 else if r = nbase then 900 else 1000 + (r - (nbase + 1))
def gvR : Nat → Bool := fun r => r == 900
def hpR (q0 : Nat) (s : AS) (P' : List (List Int)) : Hp := fun q => if q = q0 then some (tyC 900 P'.length) else if q = 900 then some (false, rowsC 1000 P') else if 1000 ≤ q ∧ q < 1000 + P'.length then some (true, (P'.getD (q - 1000) []).map AV.i) else (s.drop gvR).hp q
theorem hpR_row {q0 : Nat} (h0 : q0 < 900) {s : AS} {P' : List (List Int)} {j : Nat} (hj : j < P'.length) : hpR q0 s P' (1000 + j) = some (true, (P'.getD j []).map AV.i) := by
  unfold hpR
  rw [if_neg (by omega), if_neg (by omega), if_pos (by omega), Nat.add_sub_cancel_left]
theorem stA_given0 {q0 : Nat} (hq0 : q0 < 900) {s : AS} {P' : List (List Int)} (hP' : P'.length ≤ mxA) (h1 : s.hp q0 = some (tyC 900 0)) (h2 : s.hp 900 = some (false, [])) (h3 : ∀ j, j < P'.length → s.hp (1000 + j) = none) :
    Given s gvR (nmR q0) (hinA [] []) (houtA P') (hpR q0 s P') (.tup []) := by
  have hp : pbase = 4000000 := rfl
  have hn : nbase = 8000000 := rfl
  have hg : gvb = 16000000 := rfl
  have hx : mxA = 1000000 := rfl
  have g1 : nmR q0 pbase = q0 := rfl
  have g2 : nmR q0 gvb = 900 := rfl
  have g3 : nmR q0 nbase = 900 := rfl
  have gout : ∀ j, nmR q0 (nbase + 1 + j) = 1000 + j ∨ nbase + 1 + j = gvb := fun j => by
    by_cases e : nbase + 1 + j = gvb
    · exact .inr e
    · unfold nmR
      exact .inl (by rw [if_neg (by omega), if_neg e, if_neg (by omega), Nat.add_sub_cancel_left])
  have gout : ∀ j, j < P'.length → nmR q0 (nbase + 1 + j) = 1000 + j := fun j hj => (gout j).resolve_right (by omega)
  have qq : gvR q0 = false := by unfold gvR; simp; omega
  have hinS : ∀ r, (hinA [] [] r).isSome = true → r = pbase ∨ r = gvb := by
    intro r hr
    obtain ⟨c, hc⟩ := Option.isSome_iff_exists.1 hr
    rcases hinA_some hc with ⟨h, _⟩ | ⟨h, _⟩ | ⟨j, h, _⟩
    · exact .inl h
    · exact .inr h
    · simp at h
  have houtV : ∀ r, (houtA P' r).isSome = true → (r = pbase ∧ nmR q0 r = q0) ∨ (r = nbase ∧ nmR q0 r = 900) ∨ ∃ j, j < P'.length ∧ r = nbase + 1 + j ∧ nmR q0 r = 1000 + j := by
    intro r hr
    obtain ⟨c, hc⟩ := Option.isSome_iff_exists.1 hr
    rcases houtA_some hc with ⟨h, _⟩ | ⟨h, _⟩ | ⟨j, h, h', _⟩
    · exact .inl ⟨h, by rw [h]; exact g1⟩
    · exact .inr (.inl ⟨h, by rw [h]; exact g3⟩)
    · exact .inr (.inr ⟨j, h, h', by rw [h']; exact gout j h⟩)
  refine ⟨fun r c hc => ?_, fun r hr => ?_, fun r hr hge => ?_, fun r r' hr hr' e => ?_, fun r r' hr hr' e => ?_, fun r hr hlt => ?_, fun r hr => ?_, fun r hr hno => ?_, fun r c hc => ?_, fun q hq => ?_, fun r c hc => ?_, fun r c hc => ?_, rfl⟩
  · rcases hinA_some hc with ⟨rfl, rfl⟩ | ⟨rfl, rfl⟩ | ⟨j, hj, _⟩
    · rw [g1, h1]
      rfl
    · rw [g2, h2]
      rfl
    · simp at hj
  · rcases hinS r hr with rfl | rfl
    · rw [g1, qq]
      exact ⟨fun h => (by cases h), fun h => by omega⟩
    · rw [g2]
      exact ⟨fun _ => Nat.le_refl _, fun _ => rfl⟩
  · refine .inl ?_
    rcases hinS r hr with rfl | rfl
    · omega
    · rw [g2]; omega
  · rcases hinS r hr with rfl | rfl <;> rcases hinS r' hr' with rfl | rfl
    · rfl
    · rw [g1, g2] at e; omega
    · rw [g1, g2] at e; omega
    · rfl
  · rcases houtV r hr with ⟨a, b⟩ | ⟨a, b⟩ | ⟨j, h, a, b⟩ <;> rcases houtV r' hr' with ⟨a', b'⟩ | ⟨a', b'⟩ | ⟨j', h', a', b'⟩ <;> omega
  · rcases hinS r hr with rfl | rfl
    · rfl
    · omega
  · rcases houtV r hr with ⟨a, b⟩ | ⟨a, b⟩ | ⟨j, h, a, b⟩ <;> omega
  · rcases houtV r hr with ⟨rfl, b⟩ | ⟨rfl, b⟩ | ⟨j, h, rfl, b⟩
    · have e : hinA [] [] pbase = some (tyC gvb 0) := rfl
      rw [e] at hno; cases hno
    · exact ⟨rfl, by rw [b]; omega⟩
    · rw [b]
      refine ⟨?_, by omega⟩
      show (if gvR (1000 + j) = true then none else (s.hp (1000 + j)).map (dropR gvR)) = none
      rw [h3 j h]
      split <;> rfl
  · have k1 : hpR q0 s P' q0 = some (tyC 900 P'.length) := by unfold hpR; rw [if_pos rfl]
    have k2 : hpR q0 s P' 900 = some (false, rowsC 1000 P') := by unfold hpR; rw [if_neg (by omega), if_pos rfl]
    rcases houtA_some hc with ⟨rfl, rfl⟩ | ⟨rfl, rfl⟩ | ⟨j, hj, rfl, rfl⟩
    · rw [g1, k1]
      rfl
    · rw [g3, k2]
      simp only [renR]
      rw [rowsC_ren _ (nbase + 1) 1000 P' fun j hj => gout j hj]
    · rw [gout j hj, hpR_row hq0 hj]
      simp only [renR]
      rw [renL_ints]
  · have k1 := hq pbase rfl
    have k2 := hq nbase rfl
    rw [g1] at k1
    rw [g3] at k2
    unfold hpR
    rw [if_neg (Ne.symm k1), if_neg (Ne.symm k2), if_neg]
    rintro ⟨h4, h5⟩
    have := hq (nbase + 1 + (q - 1000)) (by rw [houtA_row (by omega)]; rfl)
    rw [gout _ (by omega)] at this
    omega
  · rcases hinA_some hc with ⟨rfl, rfl⟩ | ⟨rfl, rfl⟩ | ⟨j, hj, _⟩
    · exact ⟨rfl, rfl⟩
    · exact ⟨rfl, rfl⟩
    · simp at hj
  · rcases houtA_some hc with ⟨rfl, rfl⟩ | ⟨rfl, rfl⟩ | ⟨j, hj, rfl, rfl⟩
    · rfl
    · exact rowsC_own _ _ _
    · exact ownL_ints _ _
theorem lendH_nil0 {hp : Hp} {g : Nat → Nat} {hin : Hp} : LendH1 hp g hin (.v (.slice none 0 0)) (ints []) := by
  intro w0 mu N tm w phi ro v hS h
  simp only [SimV] at h ⊢
  exact .inl ⟨rfl, rfl, none, 0, h, by simp⟩
theorem hin0_live {q0 : Nat} {hp : Hp} {c1 c2 : Bool × List AV} (h1 : hp q0 = some c1) (h2 : hp 900 = some c2) : ∀ r c, hinA [] [] r = some c → (hp (nmR q0 r)).isSome = true := by
  intro r c hc
  rcases hinA_some hc with ⟨rfl, _⟩ | ⟨rfl, _⟩ | ⟨j, hj, _⟩
  · show (hp q0).isSome = true
    rw [h1]; rfl
  · show (hp 900).isSome = true
    rw [h2]; rfl
  · simp at hj
end
end Go.Am
namespace Go.Proofs.Ytpohldecllkjbaa
open Go.Am
attribute [local irreducible] AW Outs Weak Lends Lend Sp aops atree aop1 Then Round InBlock Done
attribute [local irreducible] SpM DoneM SpH DoneH SpG DoneT
abbrev pzArgs (n : Nat) (C : List Clu) (x : AV) : List AV := [.i n, .ro false 3 (cls C) C.length, x, .pt pbase 0]
/-- All that go on from a beginning. -/
def newN (l : List Int) (x : Nat) : Bool := !decide ((x : Int) ∈ l)
def allFit (C : List Clu) (L : List Int) : Bool := C.all (fitC L)
/-- What is found at a full list: the list itself, if it fits. -/
def leafP (C : List Clu) (P : List (List Int)) (M : List Int) : List (List Int) := if allFit C M then P ++ [M] else P
theorem pzLook_leaf (n : Nat) (C : List Clu) (M : List Int) (P : List (List Int)) (hM : IsEx M) (hn : M.length = n) (hC : C.length ≤ 6) (hcl : ∀ c ∈ C, IsClu n c) (hP : P.length + 1 ≤ mxA) : SpG Try.prog 81 (pzArgs n C (.sl (gvb + 1 + P.length) 1 0 M.length)) (hinA P (P ++ [M])) (.tup []) (houtA (leafP C P M)) := by
  have hpb : pbase = 4000000 := rfl
  have hx : mxA = 1000000 := rfl
  have hl1 : (P ++ [M]).length = P.length + 1 := by simp
  have hrl := rowsC_len 1000 P
  have hrow : ∀ j, j < P.length → (P ++ [M]).getD j [] = P.getD j [] := fun j hj => by simp [List.getElem?_append, hj]
  have href : refsT (fun r => (famH (Am.look [(pbase, tyC 900 P.length), (900, (false, rowsC 1000 P))]) 1000 (P ++ [M]) r).isSome) [(2, .sl (1000 + P.length) 1 0 M.length)] = true := by
    simp only [refsT, refsV, Bool.and_true]
    rw [famH_row (look2_none (by omega) (by omega)) (by omega)]
    rfl
  simp only [refsT, Bool.and_true] at href
  refine specT_of Try.func81 rfl cc81 rfl (stA_static P (P ++ [M]) (leafP C P M)) (stA [(0, .i n), (1, .ro false 3 (cls C) C.length), (2, .sl (1000 + P.length) 1 0 M.length), (3, .pt pbase 0)] P (P ++ [M])) (stA_enter (by omega) (by omega) ?_ ?_) ?_
  · refine ⟨rfl, rfl, ?_, rfl, trivial⟩
    show AV.sl (gvb + 1 + P.length) 1 0 M.length = .sl (nmA (1000 + P.length)) 1 0 M.length
    rw [nmA_row (by omega)]
  · simp only [refsT, Bool.true_and, Bool.and_true, href]
    rfl
  unfold ac81
  repeat (first | (refine step_ops ?_; (first | (refine m_mov (by conv => lhs; whnf) ?_) | (refine m_lss rfl rfl ?_) | (refine m_len_ro rfl ?_) | (refine m_len_sl rfl ?_))) | refine end_ops ?_ | refine seq_ops ?_ | (refine cond_f rfl ?_ ?_; (· first | rfl | assumption | (refine decide_eq_false ?_; first | assumption | omega) | (refine nf ?_; first | assumption | omega) | (simp [*]; done))) | refine skip_then ?_ | refine AW_seq ?_ | refine AW_block ?_)
  refine AW_loop (α := Nat) (fun k => k ≤ C.length ∧ ∀ c ∈ C.take k, fitC M c = true) (fun k => stA [(0, .i n), (1, .ro false 3 (cls C) C.length), (2, .sl (1000 + P.length) 1 0 M.length), (3, .pt pbase 0), (33, .ro false 3 (cls C) C.length), (34, .i C.length), (35, .i k)] P (P ++ [M])) (fun k => C.length - k) 0 ⟨Nat.zero_le _, by simp⟩ ?_ ?_
  · refine stA_weakR (by omega) (by omega) ⟨rfl, rfl, rfl, rfl, rfl, rfl, rfl, trivial⟩ rfl rfl (fun j hj => ?_) ?_
    · simp (disch := omega) only [hp_put]
      exact stA_row hj (by omega)
    · simp only [refsT, Bool.true_and, Bool.and_true, href]
      rfl
  rintro k ⟨hk, hI⟩
  by_cases h : k < C.length
  · have hsn := take_snoc C k (0, 0, 0) h
    have hmem := getD_memL (d := ((0, 0, 0) : Clu)) h
    rcases hce : C.getD k (0, 0, 0) with ⟨c1, c2, c3⟩
    rw [hce] at hsn hmem
    have hfi := pzFits_spec M c1 c2 c3 hM (by rw [hn]; exact hcl _ hmem)
    cases hf : fitC M (c1, c2, c3) with
    | true =>
      rw [hf] at hfi
      repeat (first | (refine step_ops ?_; (first | (refine m_lss rfl rfl ?_) | (refine m_idx_ro rfl rfl ?_ ?_ ?_; (· omega); (· omega)))) | refine end_ops ?_ | refine seq_ops ?_ | (refine cond_t rfl ?_ ?_; (· first | rfl | assumption | (refine decide_eq_true ?_; first | assumption | omega) | (refine nt ?_; first | assumption | omega) | (simp [*]; done))) | refine skip_then ?_ | refine AW_seq ?_ | refine AW_block ?_)
      refine step_ops ?_
      refine m_ldClu h hce rfl ?_
      repeat (first | (refine step_ops ?_; (first | (refine m_mov (by conv => lhs; whnf) ?_) | (refine m_alloc ?_) | (refine m_ldall rfl rfl ?_ ?_; (· first | rfl | (simp; done) | (simp [*]; done))) | (refine m_stall rfl rfl rfl ?_ ?_ ?_ ?_; (· first | rfl | (simp [*]; done)); (· first | rfl | (simp [*]; done)); (· first | rfl | (simp [cellOk, Value.oneCell']; done))))) | refine end_ops ?_ | refine seq_ops ?_)
      have hk10 : killV 10 (AV.sl (1000 + P.length) 1 0 M.length) = .sl (1000 + P.length) 1 0 M.length := by
        simp only [killV]
        rw [if_neg (by omega)]
      refine step_ops ?_
      refine m_call hfi ?_ ?_
      · show Lends _ [AV.agg [.i c1, .i c2, .i c3], killV 10 (AV.sl (1000 + P.length) 1 0 M.length)] _
        rw [hk10]
        refine lends_cons (lend_agg rfl) (lends_cons (lend_sli (L := M) ?_ rfl) lends_nil)
        simp (disch := omega) only [hp_put, hp_mem_ne, hp_kill_ne]
        rw [stA_row (by omega) (by omega)]
        simp [killR]
      repeat (first | (refine step_ops ?_; (first | (refine m_mov (by conv => lhs; whnf) ?_) | (refine m_add rfl rfl ?_ ?_ ?_; (· omega); (· omega)) | (refine m_not rfl ?_))) | refine end_ops ?_ | refine AW_ops ?_ | (refine cond_f rfl ?_ ?_; (· first | rfl | assumption | (refine decide_eq_false ?_; first | assumption | omega) | (refine nf ?_; first | assumption | omega) | (simp [*]; done))) | refine norm_then ?_ | refine norm_block ?_ | refine AW_skip ?_)
      refine next_round (k + 1) ⟨h, fun c hcm => ?_⟩ ?_ (by omega)
      · rw [hsn] at hcm
        rcases List.mem_append.1 hcm with hcm | hcm
        · exact hI c hcm
        · rw [List.mem_singleton.1 hcm]; exact hf
      refine stA_weakR (by omega) (by omega) ⟨rfl, rfl, hk10, rfl, rfl, rfl, rfl, trivial⟩ rfl ?_ (fun j hj => ?_) ?_
      · show some (false, killL 10 (rowsC 1000 P)) = _
        rw [rowsC_kill _ _ _ (by decide)]
      · simp (disch := omega) only [hp_put, hp_mem_ne, hp_kill_ne]
        rw [stA_row hj (by omega)]
        rfl
      · simp only [refsT, Bool.true_and, Bool.and_true, href]
        rfl
    | false =>
      rw [hf] at hfi
      have hno : allFit C M = false := by
        unfold allFit
        rw [List.all_eq_false]
        exact ⟨_, hmem, by rw [hf]; simp⟩
      have hlp : leafP C P M = P := if_neg (by rw [hno]; simp)
      rw [hlp]
      repeat (first | (refine step_ops ?_; (first | (refine m_lss rfl rfl ?_) | (refine m_idx_ro rfl rfl ?_ ?_ ?_; (· omega); (· omega)))) | refine end_ops ?_ | refine seq_ops ?_ | (refine cond_t rfl ?_ ?_; (· first | rfl | assumption | (refine decide_eq_true ?_; first | assumption | omega) | (refine nt ?_; first | assumption | omega) | (simp [*]; done))) | refine skip_then ?_ | refine AW_seq ?_ | refine AW_block ?_)
      refine step_ops ?_
      refine m_ldClu h hce rfl ?_
      repeat (first | (refine step_ops ?_; (first | (refine m_mov (by conv => lhs; whnf) ?_) | (refine m_alloc ?_) | (refine m_ldall rfl rfl ?_ ?_; (· first | rfl | (simp; done) | (simp [*]; done))) | (refine m_stall rfl rfl rfl ?_ ?_ ?_ ?_; (· first | rfl | (simp [*]; done)); (· first | rfl | (simp [*]; done)); (· first | rfl | (simp [cellOk, Value.oneCell']; done))))) | refine end_ops ?_ | refine seq_ops ?_)
      have hk10 : killV 10 (AV.sl (1000 + P.length) 1 0 M.length) = .sl (1000 + P.length) 1 0 M.length := by
        simp only [killV]
        rw [if_neg (by omega)]
      refine step_ops ?_
      refine m_call hfi ?_ ?_
      · show Lends _ [AV.agg [.i c1, .i c2, .i c3], killV 10 (AV.sl (1000 + P.length) 1 0 M.length)] _
        rw [hk10]
        refine lends_cons (lend_agg rfl) (lends_cons (lend_sli (L := M) ?_ rfl) lends_nil)
        simp (disch := omega) only [hp_put, hp_mem_ne, hp_kill_ne]
        rw [stA_row (by omega) (by omega)]
        simp [killR]
      repeat (first | (refine step_ops ?_; (refine m_not rfl ?_)) | refine end_ops ?_ | (refine cond_t rfl ?_ ?_; (· first | rfl | assumption | (refine decide_eq_true ?_; first | assumption | omega) | (refine nt ?_; first | assumption | omega) | (simp [*]; done))) | refine AW_ret ?_ | refine ret_then ?_ | refine ret_block ?_ | refine ret_round ?_)
      refine stA_done (P' := P) (q := 900) (by decide) (by omega) rfl ?_ fun j hj => ?_
      · show some (false, killL 10 (rowsC 1000 P)) = _
        rw [rowsC_kill _ _ _ (by decide)]
      · simp (disch := omega) only [hp_put, hp_mem_ne, hp_kill_ne]
        rw [stA_row (by omega) (by omega), hrow j hj]
        rfl
  · obtain rfl : k = C.length := by omega
    rw [List.take_length] at hI
    have hyes : allFit C M = true := List.all_eq_true.2 hI
    have hlp : leafP C P M = P ++ [M] := if_pos hyes
    rw [hlp]
    repeat (first | (refine step_ops ?_; (first | (refine m_mov (by conv => lhs; whnf) ?_) | (refine m_lss rfl rfl ?_) | (apply m_ld_pt; (· rfl); (· rfl); (· rfl)) | (refine m_nchk rfl ?_))) | refine end_ops ?_ | refine seq_ops ?_ | refine AW_ops ?_ | (refine cond_f rfl ?_ ?_; (· first | rfl | assumption | (refine decide_eq_false ?_; first | assumption | omega) | (refine nf ?_; first | assumption | omega) | (simp [*]; done))) | refine AW_seq ?_ | refine norm_then ?_ | refine exit_then ?_ | refine exit_round ?_ | refine AW_exit ?_ | refine exit_block ?_)
    refine step_ops ?_
    refine m_bsl1d rfl rfl ?_
    refine step_ops ?_
    have hk49 : killV 49 (AV.sl (1000 + P.length) 1 0 M.length) = .sl (1000 + P.length) 1 0 M.length := by
      simp only [killV]
      rw [if_neg (by omega)]
    refine m_app1d (v := .sl (1000 + P.length) 1 0 M.length) rfl (by decide) rfl ?_ rfl (by show some (false, [killV 49 (AV.sl (1000 + P.length) 1 0 M.length)]) = _; rw [hk49]) rfl ?_ (by decide) ?_
    · simp [rowsC_kill, rowsC_len]
    · omega
    repeat (refine step_ops ?_; (refine m_nchk rfl ?_))
    refine step_ops ?_
    refine m_st (r := pbase) (off := 0) (fl := false) (cs := [.any]) rfl rfl rfl (by decide) rfl ?_
    repeat refine end_ops ?_
    refine normal_doneT (stA_done (P' := P ++ [M]) (q := 50) (by decide) (by omega) ?_ ?_ fun j hj => ?_)
    · rw [hl1]
      rfl
    · rw [rowsC_snoc]
      simp (disch := decide) only [hp_put, hp_mem_ne]
      simp [AS.mem, killR, rowsC_kill, killL_append, killL, killV]
      rw [if_neg (by omega)]
      simp only [killV]
      rw [if_neg (by omega)]
    · simp (disch := omega) only [hp_put, hp_mem_ne, hp_kill_ne]
      rw [stA_row hj (by omega)]
      rfl
end Go.Proofs.Ytpohldecllkjbaa
namespace Go.Proofs.Ytpohldecllkjbaa
open Go.Am
attribute [local irreducible] AW Outs Weak Lends Lend Sp aops atree aop1 Then Round InBlock Done
attribute [local irreducible] SpM DoneM SpH DoneH SpG DoneT
/-- All that go on and fit. -/
def slv (C : List Clu) (n k : Nat) (l : List Int) : List (List Int) := (goOn newN n k l).filter (allFit C)
theorem slv_zero (C : List Clu) (n : Nat) (P : List (List Int)) (l : List Int) : leafP C P l = P ++ slv C n 0 l := by
  unfold leafP slv
  cases h : allFit C l <;> simp [goOn, h]
theorem newN_new : ∀ l x, newN l x = true → (x : Int) ∉ l := by
  intro l x h
  unfold newN at h
  simpa using h
theorem snoc_ok {n : Nat} {l : List Int} {x : Nat} (hn : l.Nodup) (hb : ∀ y ∈ l, 0 ≤ y ∧ y < (n : Int)) (hx : x < n) (hf : newN l x = true) : (l ++ [(x : Int)]).Nodup ∧ ∀ y ∈ l ++ [(x : Int)], 0 ≤ y ∧ y < (n : Int) := by
  refine ⟨?_, fun y hy => ?_⟩
  · rw [List.nodup_append]
    refine ⟨hn, by simp, ?_⟩
    rintro a ha b hb' rfl
    rw [List.mem_singleton] at hb'
    subst hb'
    exact newN_new l x hf ha
  · rcases List.mem_append.1 hy with hy | hy
    · exact hb y hy
    · rw [List.mem_singleton.1 hy]
      omega
theorem slv_len {C : List Clu} {n k : Nat} (h5 : n ≤ 5) {l : List Int} (hl : l.length + k = n) (hn : l.Nodup) (hb : ∀ y ∈ l, 0 ≤ y ∧ y < (n : Int)) : (slv C n k l).length ≤ 120 := by
  have h1 := goOn_fac newN_new k l hl hn hb
  have h2 : (slv C n k l).length ≤ (goOn newN n k l).length := List.length_filter_le ..
  have h3 : ∀ k < 6, facR k ≤ 120 := by decide
  have := h3 k (by omega)
  omega
theorem ex_of {n : Nat} {l : List Int} (h1 : 1 ≤ n) (h5 : n ≤ 5) (hl : l.length = n) (hn : l.Nodup) (hb : ∀ y ∈ l, 0 ≤ y ∧ y < (n : Int)) : IsEx l := ⟨by omega, by omega, fun x hx => by rw [hl]; exact hb x hx, hn⟩
/-- One guest more goes on: the call within the loop. -/
theorem pzLook_step (n : Nat) (h1n : 1 ≤ n) (h5 : n ≤ 5) (C : List Clu) (hC : C.length ≤ 6) (hcl : ∀ c ∈ C, IsClu n c) (l : List Int) (x k : Nat) (Q : List (List Int)) (hl : l.length + (k + 1) = n) (hn : (l ++ [(x : Int)]).Nodup) (hb : ∀ y ∈ l ++ [(x : Int)], 0 ≤ y ∧ y < (n : Int)) (hQ : Q.length + 121 ≤ mxA)
    (ih : 0 < k → SpG Try.prog 81 (pzArgs n C (ints (l ++ [(x : Int)]))) (hinA Q Q) (.tup []) (houtA (Q ++ slv C n k (l ++ [(x : Int)]))))
    {s : AS} {K : AS → Prop} {d : Option Nat} {a0 a1 a2 a3 : Opd} (e0 : s.ev a0 = .i n) (e1 : s.ev a1 = .ro false 3 (cls C) C.length) (e2 : s.ev a2 = .sl 30 1 0 (l ++ [(x : Int)]).length) (e3 : s.ev a3 = .pt pbase 0)
    (h1 : s.hp pbase = some (tyC 900 Q.length)) (h2 : s.hp 900 = some (false, rowsC 1000 Q)) (h3 : ∀ j, j < Q.length → s.hp (1000 + j) = some (true, (Q.getD j []).map AV.i)) (h30 : s.hp 30 = some (true, (l ++ [(x : Int)]).map AV.i))
    (kk : K (AS.put ⟨(s.drop (gvA 30)).tm, hpA 30 s (Q ++ slv C n k (l ++ [(x : Int)]))⟩ d (.tup []))) : aop1 Try.prog true ⟨d, .call 81 [a0, a1, a2, a3], none⟩ s K := by
  have hlen : (l ++ [(x : Int)]).length = l.length + 1 := by simp
  have hsl := slv_len (C := C) (k := k) h5 (l := l ++ [(x : Int)]) (by omega) hn hb
  have hcr : ownV true (AV.ro false 3 (cls C) C.length) = true := cls_plain C
  by_cases hk : k = 0
  · subst hk
    have hlf := pzLook_leaf n C (l ++ [(x : Int)]) Q (ex_of h1n h5 (by omega) hn hb) (by omega) hC hcl (by omega)
    rw [slv_zero C n] at hlf
    have hG := stA_givenL (X := 30) (P' := Q ++ slv C n 0 (l ++ [(x : Int)])) (by decide) (by omega) (by rw [List.length_append]; omega) h1 h2 h3 h30
    refine m_callG (nmB 30 Q.length) (gvA 30) hlf ?_ hG kk
    show LendsH s.hp _ _ [s.ev a0, s.ev a1, s.ev a2, s.ev a3] _
    rw [e0, e1, e2, e3]
    exact lendH_cons lendH_v (lendH_cons (lendH_ro hG hcr rfl rfl) (lendH_cons (lendH_leaf hG) (lendH_cons (lendH_pt hG) lendH_nil)))
  · have hG := stA_givenN (X := 30) (P' := Q ++ slv C n k (l ++ [(x : Int)])) (by decide) (by omega) (by rw [List.length_append]; omega) h1 h2 h3
    refine m_callG (nmB 30 Q.length) (gvA 30) (ih (by omega)) ?_ hG kk
    show LendsH s.hp _ _ [s.ev a0, s.ev a1, s.ev a2, s.ev a3] _
    rw [e0, e1, e2, e3]
    exact lendH_cons lendH_v (lendH_cons (lendH_ro hG hcr rfl rfl) (lendH_cons (lendH_node (by decide) (by omega) hG h30) (lendH_cons (lendH_pt hG) lendH_nil)))
set_option maxRecDepth 20000 in
theorem pzLook_in (n : Nat) (h1n : 1 ≤ n) (h5 : n ≤ 5) (C : List Clu) (hC : C.length ≤ 6) (hcl : ∀ c ∈ C, IsClu n c) (k : Nat)
    (ih : 0 < k → ∀ (l : List Int) (P : List (List Int)), l.length + k = n → l.Nodup → (∀ y ∈ l, 0 ≤ y ∧ y < (n : Int)) → P.length + 1000 * k ≤ 100000 → SpG Try.prog 81 (pzArgs n C (ints l)) (hinA P P) (.tup []) (houtA (P ++ slv C n k l)))
    (l : List Int) (P : List (List Int)) (hl : l.length + (k + 1) = n) (hn : l.Nodup) (hb : ∀ y ∈ l, 0 ≤ y ∧ y < (n : Int)) (hN : P.length + 1000 * (k + 1) ≤ 100000) :
    SpG Try.prog 81 (pzArgs n C (ints l)) (hinA P P) (.tup []) (houtA (P ++ slv C n (k + 1) l)) := by
  have hpb : pbase = 4000000 := rfl
  have hx : mxA = 1000000 := rfl
  have hall : (partA newN n k l n).filter (allFit C) = slv C n (k + 1) l := rfl
  have hfin := slv_len (C := C) (k := k + 1) h5 hl hn hb
  have hlen : ∀ x, x ≤ n → (P ++ (partA newN n k l x).filter (allFit C)).length ≤ P.length + 120 := fun x hx' => by
    have h1 := goOn_fac newN_new (k + 1) l hl hn hb
    have h2 := partA_mono newN n k l hx'
    rw [partA_all] at h2
    have h3 : ∀ k < 6, facR k ≤ 120 := by decide
    have h4 := h3 (k + 1) (by omega)
    have h6 : ((partA newN n k l x).filter (allFit C)).length ≤ (partA newN n k l x).length := List.length_filter_le ..
    rw [List.length_append]
    omega
  have hp0 : P ++ (partA newN n k l 0).filter (allFit C) = P := by rw [partA_zero]; simp
  refine specT_of Try.func81 rfl cc81 rfl (stA_static P P _) (stA [(0, .i n), (1, .ro false 3 (cls C) C.length), (2, ints l), (3, .pt pbase 0)] P P) (stA_enter (by omega) (Nat.le_refl _) ⟨rfl, rfl, rfl, rfl, trivial⟩ rfl) ?_
  unfold ac81
  repeat (first | (refine step_ops ?_; (first | (refine m_mov (by conv => lhs; whnf) ?_) | (refine m_lss rfl rfl ?_) | (refine m_len_ro rfl ?_))) | refine end_ops ?_ | refine seq_ops ?_ | (refine cond_t rfl ?_ ?_; (· first | rfl | assumption | (refine decide_eq_true ?_; first | assumption | omega) | (refine nt ?_; first | assumption | omega) | (simp [*]; done))) | refine AW_seq ?_ | refine AW_block ?_)
  refine AW_loop (α := Nat) (fun x => x ≤ n) (fun x => stA [(0, .i n), (1, .ro false 3 (cls C) C.length), (2, ints l), (3, .pt pbase 0), (8, .i x)] (P ++ (partA newN n k l x).filter (allFit C)) (P ++ (partA newN n k l x).filter (allFit C))) (fun x => n - x) 0 (Nat.zero_le _) ?_ ?_
  · rw [hp0]
    refine stA_weak (by omega) ⟨rfl, rfl, rfl, rfl, rfl, trivial⟩ rfl rfl (fun j hj => ?_) rfl
    simp (disch := omega) only [hp_put]
    exact stA_row hj (by omega)
  intro x hx'
  have hQ := hlen x hx'
  by_cases hc : x < n
  · have hsucc := partA_succ newN n k l x
    have hsame : newN l x = false → P ++ (partA newN n k l (x + 1)).filter (allFit C) = P ++ (partA newN n k l x).filter (allFit C) := fun h => by rw [hsucc, h]; simp
    have hmore : newN l x = true → P ++ (partA newN n k l (x + 1)).filter (allFit C) = P ++ (partA newN n k l x).filter (allFit C) ++ slv C n k (l ++ [(x : Int)]) := fun h => by
      rw [hsucc, if_pos h, List.filter_append, List.append_assoc]
      rfl
    generalize P ++ (partA newN n k l x).filter (allFit C) = Q at *
    by_cases hm : (x : Int) ∈ l
    · have hfit : newN l x = false := by unfold newN; simp [hm]
      repeat (first | (refine step_ops ?_; (first | (refine m_mov (by conv => lhs; whnf) ?_) | (refine m_lss rfl rfl ?_))) | refine end_ops ?_ | refine seq_ops ?_ | (refine cond_t rfl ?_ ?_; (· first | rfl | assumption | (refine decide_eq_true ?_; first | assumption | omega) | (refine nt ?_; first | assumption | omega) | (simp [*]; done))) | refine skip_then ?_ | refine AW_seq ?_ | refine AW_block ?_)
      refine step_ops ?_; (apply m_call (l1Has_spec l x (by omega))); (· repeat (first | exact lends_nil | (refine lends_cons ?_ ?_; (· (first | exact lend_v | (refine lend_ints ?_; first | rfl | omega))))))
      repeat (first | (refine step_ops ?_; (first | (refine m_mov (by conv => lhs; whnf) ?_) | (refine m_add rfl rfl ?_ ?_ ?_; (· omega); (· omega)) | (refine m_not rfl ?_))) | refine end_ops ?_ | refine AW_ops ?_ | (refine cond_f rfl ?_ ?_; (· first | rfl | assumption | (refine decide_eq_false ?_; first | assumption | omega) | (refine nf ?_; first | assumption | omega) | (simp [*]; done))) | refine norm_then ?_ | refine norm_block ?_ | refine AW_skip ?_)
      refine next_round (x + 1) hc ?_ (by omega)
      show Weak _ (stA [(0, .i n), (1, .ro false 3 (cls C) C.length), (2, ints l), (3, .pt pbase 0), (8, .i ((x + 1 : Nat) : Int))] (P ++ (partA newN n k l (x + 1)).filter (allFit C)) (P ++ (partA newN n k l (x + 1)).filter (allFit C)))
      rw [hsame hfit]
      refine stA_weak (by omega) ⟨rfl, rfl, rfl, rfl, rfl, trivial⟩ rfl rfl (fun j hj => ?_) rfl
      simp (disch := omega) only [hp_put]
      exact stA_row hj (by omega)
    have hfit : newN l x = true := by unfold newN; simp [hm]
    obtain ⟨hn', hb'⟩ := snoc_ok hn hb hc hfit
    have hsl := slv_len (C := C) (k := k) h5 (l := l ++ [(x : Int)]) (by simp; omega) hn' hb'
    have hih : 0 < k → SpG Try.prog 81 (pzArgs n C (ints (l ++ [(x : Int)]))) (hinA Q Q) (.tup []) (houtA (Q ++ slv C n k (l ++ [(x : Int)]))) := fun h => ih h _ _ (by simp; omega) hn' hb' (by omega)
    repeat (first | (refine step_ops ?_; (first | (refine m_mov (by conv => lhs; whnf) ?_) | (refine m_lss rfl rfl ?_))) | refine end_ops ?_ | refine seq_ops ?_ | (refine cond_t rfl ?_ ?_; (· first | rfl | assumption | (refine decide_eq_true ?_; first | assumption | omega) | (refine nt ?_; first | assumption | omega) | (simp [*]; done))) | refine skip_then ?_ | refine AW_seq ?_ | refine AW_block ?_)
    refine step_ops ?_; (apply m_call (l1Has_spec l x (by omega))); (· repeat (first | exact lends_nil | (refine lends_cons ?_ ?_; (· (first | exact lend_v | (refine lend_ints ?_; first | rfl | omega))))))
    repeat (first | (refine step_ops ?_; (first | (refine m_mov (by conv => lhs; whnf) ?_) | (refine m_not rfl ?_))) | refine end_ops ?_ | refine AW_ops ?_ | (refine cond_t rfl ?_ ?_; (· first | rfl | assumption | (refine decide_eq_true ?_; first | assumption | omega) | (refine nt ?_; first | assumption | omega) | (simp [*]; done))))
    refine step_ops ?_; (apply m_callo (l1Own_spec l (by omega))); (· repeat (first | exact lends_nil | (refine lends_cons ?_ ?_; (· (refine lend_ints ?_; first | rfl | omega))))); (· first | exact allv_ints _ | rfl | (simp; done))
    repeat (refine step_ops ?_; (first | (refine m_mov (by conv => lhs; whnf) ?_) | (refine m_bsl1 rfl rfl ?_) | (refine m_app1i rfl (by decide) (by rfl) (by first | rfl | omega | (simp; done)) rfl rfl ?_ (by decide) ?_; (· first | omega | (simp; omega)))))
    refine step_ops ?_
    refine pzLook_step n h1n h5 C hC hcl l x k Q hl hn' hb' (by omega) hih rfl rfl rfl rfl rfl ?_ (fun j hj => ?_) ?_ ?_
    · show some (false, killL 30 (killL 27 (killL 29 (killL 27 (rowsC 1000 Q))))) = _
      have hk := fun r (h : r < 1000) => rowsC_kill r 1000 Q h
      rw [hk 27 (by decide), hk 29 (by decide), hk 27 (by decide), hk 30 (by decide)]
    · simp (disch := omega) only [hp_put, hp_mem_ne, hp_kill_ne]
      rw [stA_row hj (by omega)]
      rfl
    · rfl
    repeat (first | (refine step_ops ?_; (first | (refine m_mov (by conv => lhs; whnf) ?_) | (refine m_add rfl rfl ?_ ?_ ?_; (· omega); (· omega)))) | refine end_ops ?_ | refine AW_ops ?_ | refine norm_then ?_ | refine norm_block ?_)
    refine next_round (x + 1) hc ?_ (by omega)
    show Weak _ (stA [(0, .i n), (1, .ro false 3 (cls C) C.length), (2, ints l), (3, .pt pbase 0), (8, .i ((x + 1 : Nat) : Int))] (P ++ (partA newN n k l (x + 1)).filter (allFit C)) (P ++ (partA newN n k l (x + 1)).filter (allFit C)))
    rw [hmore hfit]
    refine stA_weak (by rw [List.length_append]; omega) ⟨rfl, rfl, rfl, rfl, rfl, trivial⟩ rfl rfl (fun j hj => ?_) rfl
    simp (disch := omega) only [hp_put]
    exact hpA_row hj (by rw [List.length_append]; omega)
  · obtain rfl : x = n := by omega
    rw [hall] at hQ ⊢
    repeat (first | (refine step_ops ?_; (first | (refine m_mov (by conv => lhs; whnf) ?_) | (refine m_lss rfl rfl ?_))) | refine end_ops ?_ | refine seq_ops ?_ | (refine cond_f rfl ?_ ?_; (· first | rfl | assumption | (refine decide_eq_false ?_; first | assumption | omega) | (refine nf ?_; first | assumption | omega) | (simp [*]; done))) | refine AW_seq ?_ | refine AW_ret ?_ | refine norm_then ?_ | refine ret_then ?_ | refine exit_then ?_ | refine exit_round ?_ | refine AW_exit ?_ | refine exit_block ?_)
    refine stA_done (q := 900) (by decide) (by omega) ?_ ?_ fun j hj => ?_
    · rfl
    · rfl
    · simp (disch := omega) only [hp_put]
      exact stA_row hj (by omega)
theorem pzLook_node (n : Nat) (h1n : 1 ≤ n) (h5 : n ≤ 5) (C : List Clu) (hC : C.length ≤ 6) (hcl : ∀ c ∈ C, IsClu n c) : ∀ (k : Nat) (l : List Int) (P : List (List Int)), l.length + (k + 1) = n → l.Nodup → (∀ y ∈ l, 0 ≤ y ∧ y < (n : Int)) → P.length + 1000 * (k + 1) ≤ 100000 →
    SpG Try.prog 81 (pzArgs n C (ints l)) (hinA P P) (.tup []) (houtA (P ++ slv C n (k + 1) l)) := by
  intro k
  induction k with
  | zero => exact pzLook_in n h1n h5 C hC hcl 0 (fun h => absurd h (by omega))
  | succ k ih => exact pzLook_in n h1n h5 C hC hcl (k + 1) (fun _ => ih)
end Go.Proofs.Ytpohldecllkjbaa
namespace Go.Proofs.Ytpohldecllkjbaa
open Go.Am
attribute [local irreducible] AW Outs Weak Lends Lend Sp aops atree aop1 Then Round InBlock Done
attribute [local irreducible] SpM DoneM SpH DoneH SpG DoneT
/-- All solutions, in order. -/
def sol (n : Nat) (C : List Clu) : List (List Int) := slv C n n []
theorem sol_len {n : Nat} {C : List Clu} (h5 : n ≤ 5) : (sol n C).length ≤ 120 := slv_len h5 (by simp) List.nodup_nil (by simp)
theorem pzAll_spec (n : Nat) (h1 : 1 ≤ n) (h5 : n ≤ 5) (C : List Clu) (hC : C.length ≤ 6) (hcl : ∀ c ∈ C, IsClu n c) : SpH Try.prog 59 [.i n, .ro false 3 (cls C) C.length] (fun _ => none) (.sl nbase 1 0 (sol n C).length) (matO (sol n C)) := by
  have hpb : pbase = 4000000 := rfl
  have hx : mxA = 1000000 := rfl
  have hl := sol_len (n := n) (C := C) h5
  obtain ⟨k, hk⟩ : ∃ k, n = k + 1 := ⟨n - 1, by omega⟩
  have hnode := pzLook_node n h1 h5 C hC hcl k [] [] (by simp; omega) List.nodup_nil (by simp) (by simp; omega)
  rw [← hk, List.nil_append] at hnode
  change SpG Try.prog _ _ _ _ (houtA (sol n C)) at hnode
  have hcr : ownV true (AV.ro false 3 (cls C) C.length) = true := cls_plain C
  generalize sol n C = R at *
  refine specH_of Try.func59 rfl cc59 rfl (by first | exact static_mat1 _ | exact static_mat2 _ _ | assumption) ?_
  unfold ac59
  repeat (first | (refine step_ops ?_; (first | (refine m_mov (by conv => lhs; whnf) ?_) | (refine m_nils ?_) | (refine m_alloc ?_))) | refine end_ops ?_ | refine seq_ops ?_)
  refine step_opsW (weak_nilcellG false 5 900 1 0 rfl rfl (by decide) rfl rfl) ?_
  refine m_callG (nmR 5) gvR hnode ?_ (stA_given0 (by decide) (by omega) rfl rfl fun j hj => ?_) ?_
  · exact lendH_cons lendH_v (lendH_cons (lendH_ren (x := .ro false 3 (cls C) C.length) (hin0_live rfl rfl) hcr rfl) (lendH_cons lendH_nil0 (lendH_cons (lendH_ren (x := .pt pbase 0) (hin0_live (q0 := 5) rfl rfl) rfl rfl) lendH_nil)))
  · simp (disch := omega) only [hp_put, hp_mem_ne, hp_kill_ne]
    rfl
  repeat (first | (refine step_ops ?_; (first | (refine m_mov (by conv => lhs; whnf) ?_) | (apply m_ld_pt; (· rfl); (· rfl); (· rfl)))) | refine end_ops ?_ | refine seq_ops ?_ | refine AW_ret ?_)
  refine ret_mat (r0 := 900) (b := 1000) (by omega) (by omega) (by omega) rfl rfl fun j hj => ?_
  simp (disch := omega) only [hp_put]
  exact hpR_row (by decide) hj
end Go.Proofs.Ytpohldecllkjbaa
namespace Go.Am
theorem lend_pzl {hp : Hp} {g : Int} {C : List Clu} {fr : Bool} : Lend hp (.agg [.i g, .ro fr 3 (cls C) C.length]) (pzl g C) := lend_aggs (lends_cons lend_v (lends_cons (lend_ro (cls_plain C)) lends_nil))
theorem lend_cls {hp : Hp} {C : List Clu} {fr : Bool} : Lend hp (.ro fr 3 (cls C) C.length) (.ro false 3 (cls C) C.length) := lend_ro (cls_plain C)
end Go.Am
namespace Go.Proofs.Ytpohldecllkjbaa
open Go.Am
attribute [local irreducible] AW Outs Weak Lends Lend Sp aops atree aop1 Then Round InBlock Done
attribute [local irreducible] SpM DoneM SpH DoneH SpG DoneT
theorem pz_nat {g : Int} {C : List Clu} (h : IsPz g C) : ∃ n : Nat, g = n ∧ 1 ≤ n ∧ n ≤ 5 := by
  have h1 := h.1.1
  have h5 := h.1.2
  obtain ⟨n, rfl⟩ := Int.eq_ofNat_of_zero_le (show 0 ≤ g by omega)
  exact ⟨n, rfl, by omega, by omega⟩
/-- All solutions; none, if there is no puzzle. -/
def solS (g : Int) (C : List Clu) : List (List Int) := if IsPz g C then sol g.toNat C else []
end Go.Proofs.Ytpohldecllkjbaa
namespace Go.Proofs.Ytpohldecllkjbaa
open Go.Am
attribute [local irreducible] AW Outs Weak Lends Lend Sp aops atree aop1 Then Round InBlock Done
attribute [local irreducible] SpM DoneM
set_option maxRecDepth 8000 in
theorem toClue_spec (k a b : Int) : Sp Try.prog 16 [.agg [.i k, .i a, .i b]] (.agg [.i k, .i a, .i b]) := by
  refine specC_of Try.func16 rfl cc16 (by rfl) ?_
  unfold ac16
  refine seq_ops ?_
  refine step_ops ?_
  refine m_box (l := [.i k, .i a, .i b]) rfl rfl ?_
  repeat (first | (refine step_ops ?_; (first | (apply m_ld_pt; (· rfl); (· rfl); (· rfl)) | (apply m_st; (· rfl); (· rfl); (· rfl); (· first | omega | (simp; done) | (simp; omega)); (· rfl)) | (refine m_alloc ?_) | (refine m_fa rfl ?_) | (refine m_ldall rfl rfl ?_ ?_; (· first | rfl | (simp; done) | (simp [*]; done))) | (refine m_stall rfl rfl rfl ?_ ?_ ?_ ?_; (· first | rfl | (simp [*]; done)); (· first | rfl | (simp [*]; done)); (· first | rfl | (simp [cellOk, Value.oneCell']; done))))) | refine end_ops ?_ | refine seq_ops ?_ | refine AW_ret ?_)
  refine ret_donec rfl rfl rfl ?_
  exact outs_agg3 (outs_i rfl) (outs_i rfl) (outs_i rfl)
def copP (C : List Clu) (k : Nat) : List Clu := C.take k ++ List.replicate (C.length - k) (0, 0, 0)
theorem copP_len (C : List Clu) (k : Nat) (h : k ≤ C.length) : (copP C k).length = C.length := by simp [copP]; omega
theorem copP_set (C : List Clu) (k : Nat) (h : k < C.length) : (copP C k).set k (C.getD k (0, 0, 0)) = copP C (k + 1) := by
  unfold copP
  have e : C.length - k = (C.length - (k + 1)) + 1 := by omega
  have e2 : k - (C.take k).length = 0 := by simp; omega
  rw [take_snoc C k (0, 0, 0) h, e, List.replicate_succ, List.set_append_right _ _ (by simp; omega), e2]
  simp
theorem toClueS_spec (C : List Clu) (hC : C.length ≤ 1048576) : Sp Try.prog 56 [.ro false 3 (cls C) C.length] (.ro true 3 (cls C) C.length) := by
  refine spec_of Try.func56 rfl cc56 rfl ?_
  unfold ac56
  repeat (first | (refine step_ops ?_; (first | (refine m_mov (by conv => lhs; whnf) ?_) | (refine m_len_ro rfl ?_) | (refine m_nils ?_))) | refine end_ops ?_ | refine seq_ops ?_)
  refine step_ops ?_
  refine m_mk rfl rfl ?_ ?_ ?_
  · omega
  · omega
  repeat (first | (refine step_ops ?_; (refine m_mov (by conv => lhs; whnf) ?_)) | refine end_ops ?_ | refine seq_ops ?_ | refine AW_seq ?_ | refine AW_block ?_)
  refine AW_loop (α := Nat) (fun k => k ≤ C.length) (fun k => st [(0, .ro false 3 (cls C) C.length), (3, .sl 7 3 0 C.length), (4, .i k)] [(7, (true, cls (copP C k)))]) (fun k => C.length - k) 0 (by omega) (weak_st ?_ ?_ rfl rfl) ?_
  · (repeat' (first | exact trivial | refine And.intro ?_ ?_)) <;> (first | rfl | skip)
  · refine ⟨?_, trivial⟩
    show some (true, (List.replicate C.length ([.int .i64 0, .int .i64 0, .int .i64 0].map AV.v)).flatten) = _
    rw [cls_rep]
    simp [copP]
  intro k hk
  by_cases h : k < C.length
  · have hcl := copP_len C k hk
    have hset := copP_set C k h
    rcases hce : C.getD k (0, 0, 0) with ⟨c1, c2, c3⟩
    rw [hce] at hset
    repeat (first | (refine step_ops ?_; (first | (refine m_mov (by conv => lhs; whnf) ?_) | (refine m_lss rfl rfl ?_) | (refine m_len_ro rfl ?_) | (refine m_idx_ro rfl rfl ?_ ?_ ?_; (· omega); (· omega)))) | refine end_ops ?_ | refine seq_ops ?_ | refine AW_ops ?_ | (refine cond_t rfl ?_ ?_; (· first | rfl | assumption | (refine decide_eq_true ?_; first | assumption | omega) | (refine nt ?_; first | assumption | omega) | (simp [*]; done))) | refine skip_then ?_ | refine AW_seq ?_ | refine AW_block ?_)
    refine step_ops ?_
    refine m_ldClu h hce rfl ?_
    skip
    (refine step_ops ?_); (apply m_call (toClue_spec c1 c2 c3)); (· repeat (first | exact lends_nil | (refine lends_cons ?_ ?_; (· (refine lend_agg ?_; first | rfl | assumption | (simp [plainV]; done))))))
    repeat (refine step_ops ?_; (refine m_idx_sl rfl rfl ?_ ?_ ?_; (· omega); (· omega)))
    refine step_ops ?_
    refine m_stClu rfl (by rfl) rfl (by omega) hset ?_
    repeat (first | (refine step_ops ?_; (first | (refine m_mov (by conv => lhs; whnf) ?_) | (refine m_add rfl rfl ?_ ?_ ?_; (· omega); (· omega)))) | refine end_ops ?_ | refine AW_ops ?_ | refine norm_then ?_ | refine norm_block ?_)
    refine next_round (k + 1) h (weak_st ?_ ?_ rfl rfl) ?_
    · (repeat' (first | exact trivial | refine And.intro ?_ ?_)) <;> (first | rfl | skip)
    · (repeat' (first | exact trivial | refine And.intro ?_ ?_)) <;> (first | rfl | skip)
    · omega
  · obtain rfl : k = C.length := by omega
    repeat (first | (refine step_ops ?_; (first | (refine m_mov (by conv => lhs; whnf) ?_) | (refine m_lss rfl rfl ?_) | (refine m_len_ro rfl ?_))) | refine end_ops ?_ | refine seq_ops ?_ | (refine cond_f rfl ?_ ?_; (· first | rfl | assumption | (refine decide_eq_false ?_; first | assumption | omega) | (refine nf ?_; first | assumption | omega) | (simp [*]; done))) | refine AW_seq ?_ | refine AW_ret ?_ | refine ret_done ?_ | refine norm_then ?_ | refine exit_then ?_ | refine exit_round ?_ | refine AW_exit ?_ | refine exit_block ?_)
    refine outs_clus rfl ?_ rfl
    simp [copP]
set_option maxRecDepth 8000 in
theorem toPuzzle_spec (g : Int) (C : List Clu) (hC : C.length ≤ 1048576) : Sp Try.prog 20 [pzl g C] (newPz g C) := by
  refine specC_of Try.func20 rfl cc20 (by rfl) ?_
  unfold ac20
  repeat (first | (refine step_ops ?_; (first | (apply m_ld_pt; (· rfl); (· rfl); (· rfl)) | (apply m_st; (· rfl); (· rfl); (· rfl); (· first | omega | (simp; done) | (simp; omega)); (· rfl)) | (refine m_alloc ?_) | (refine m_fa rfl ?_) | (refine m_box rfl ?_ ?_; (· first | rfl | (simp [cellOk, Value.oneCell']; done))))) | refine end_ops ?_ | refine seq_ops ?_)
  refine step_ops ?_
  refine m_callo (toClueS_spec C hC) ?_ (cls_plain C) ?_
  · exact lends_cons lend_cls lends_nil
  repeat (refine step_ops ?_; (refine m_fa rfl ?_))
  refine step_opsW (weak_deep (r := 3) rfl (by simp) rfl) ?_
  refine m_st (v := .sl 9 3 0 C.length) rfl rfl rfl (by simp) rfl ?_
  repeat (first | (refine step_ops ?_; (refine m_ldall rfl rfl ?_ ?_; (· first | rfl | (simp; done) | (simp [*]; done)))) | refine end_ops ?_ | refine seq_ops ?_)
  refine step_opsW (weak_deep (r := 2) rfl (by simp) rfl) ?_
  refine m_stall (l := [.i g, .sl 9 3 0 C.length]) rfl rfl rfl rfl rfl rfl ?_
  repeat (first | refine end_ops ?_ | refine AW_ret ?_)
  refine ret_donec rfl rfl rfl ?_
  exact outs_agg2 (outs_i rfl) (outs_clus rfl rfl rfl)
theorem szClueS_spec (C : List Clu) (hC : C.length ≤ 9223372036854775807) : Sp Try.prog 54 [.ro false 3 (cls C) C.length, .i 1048576] (.i (if C.length ≤ 1048576 then 1048576 - C.length else -1)) := by
  refine spec_of Try.func54 rfl cc54 rfl ?_
  unfold ac54
  by_cases h : C.length ≤ 1048576
  · rw [if_pos h]
    repeat (first | (refine step_ops ?_; (first | (refine m_mov (by conv => lhs; whnf) ?_) | (refine m_lss rfl rfl ?_) | (refine m_sub rfl rfl ?_ ?_ ?_; (· omega); (· omega)) | (refine m_len_ro rfl ?_))) | refine end_ops ?_ | refine seq_ops ?_ | (refine cond_f rfl ?_ ?_; (· first | rfl | assumption | (refine decide_eq_false ?_; first | assumption | omega) | (refine nf ?_; first | assumption | omega) | (simp [*]; done))) | refine skip_then ?_ | refine AW_seq ?_ | refine AW_ret ?_ | refine ret_done ?_)
    exact outs_i rfl
  · rw [if_neg h]
    repeat (first | (refine step_ops ?_; (first | (refine m_mov (by conv => lhs; whnf) ?_) | (refine m_lss rfl rfl ?_) | (refine m_sub rfl rfl ?_ ?_ ?_; (· omega); (· omega)) | (refine m_len_ro rfl ?_))) | refine end_ops ?_ | refine seq_ops ?_ | (refine cond_t rfl ?_ ?_; (· first | rfl | assumption | (refine decide_eq_true ?_; first | assumption | omega) | (refine nt ?_; first | assumption | omega) | (simp [*]; done))) | refine AW_seq ?_ | refine AW_ret ?_ | refine ret_done ?_ | refine ret_then ?_)
    exact outs_i rfl
theorem szPuzzle_spec (g : Int) (C : List Clu) (hC : C.length ≤ 9223372036854775807) : Sp Try.prog 18 [pzl g C, .i 1048576] (.i (if C.length ≤ 1048576 then 1048576 - C.length else -1)) := by
  have hs := szClueS_spec C hC
  refine spec_of Try.func18 rfl cc18 rfl ?_
  unfold ac18
  by_cases h : C.length ≤ 1048576
  · rw [if_pos h] at hs ⊢
    repeat (first | (refine step_ops ?_; (first | (refine m_mov (by conv => lhs; whnf) ?_) | (apply m_ld_pt; (· rfl); (· rfl); (· rfl)) | (refine m_fa rfl ?_) | (refine m_box rfl ?_ ?_; (· first | rfl | (simp [cellOk, Value.oneCell']; done))))) | refine end_ops ?_ | refine seq_ops ?_)
    (refine step_ops ?_); (apply m_call (hs)); (· repeat (first | exact lends_nil | (refine lends_cons ?_ ?_; (· (first | exact lend_v | exact lend_cls)))))
    repeat (first | (refine step_ops ?_; (first | (refine m_mov (by conv => lhs; whnf) ?_) | (refine m_lss rfl rfl ?_))) | refine end_ops ?_ | refine seq_ops ?_ | (refine cond_f rfl ?_ ?_; (· first | rfl | assumption | (refine decide_eq_false ?_; first | assumption | omega) | (refine nf ?_; first | assumption | omega) | (simp [*]; done))) | refine skip_then ?_ | refine AW_seq ?_ | refine AW_ret ?_ | refine ret_done ?_)
    exact outs_i rfl
  · rw [if_neg h] at hs ⊢
    repeat (first | (refine step_ops ?_; (first | (refine m_mov (by conv => lhs; whnf) ?_) | (apply m_ld_pt; (· rfl); (· rfl); (· rfl)) | (refine m_fa rfl ?_) | (refine m_box rfl ?_ ?_; (· first | rfl | (simp [cellOk, Value.oneCell']; done))))) | refine end_ops ?_ | refine seq_ops ?_)
    (refine step_ops ?_); (apply m_call (hs)); (· repeat (first | exact lends_nil | (refine lends_cons ?_ ?_; (· (first | exact lend_v | exact lend_cls)))))
    repeat (first | (refine step_ops ?_; (first | (refine m_mov (by conv => lhs; whnf) ?_) | (refine m_lss rfl rfl ?_))) | refine end_ops ?_ | refine seq_ops ?_ | (refine cond_t rfl ?_ ?_; (· first | rfl | assumption | (refine decide_eq_true ?_; first | assumption | omega) | (refine nt ?_; first | assumption | omega) | (simp [*]; done))) | refine AW_seq ?_ | refine AW_ret ?_ | refine ret_done ?_ | refine ret_then ?_)
    exact outs_i rfl
theorem eqClue_spec (k a b l c d : Int) : Sp Try.prog 80 [.agg [.i k, .i a, .i b], .agg [.i l, .i c, .i d]] (.b (decide (((k, a, b) : Clu) = (l, c, d)))) := by
  have e : decide (((k, a, b) : Clu) = (l, c, d)) = decide (k = l ∧ a = c ∧ b = d) := by simp
  rw [e]
  refine spec_of Try.func80 rfl cc80 rfl ?_
  unfold ac80
  refine seq_ops ?_
  refine step_ops ?_
  refine m_box (l := [.i k, .i a, .i b]) rfl rfl ?_
  refine step_ops ?_
  refine m_box (l := [.i l, .i c, .i d]) rfl rfl ?_
  by_cases h1 : k = l
  · by_cases h2 : a = c
    · by_cases h3 : b = d
      · repeat (first | (refine step_ops ?_; (first | (refine m_mov (by conv => lhs; whnf) ?_) | (refine m_neq rfl rfl ?_) | (apply m_ld_pt; (· rfl); (· rfl); (· rfl)) | (refine m_fa rfl ?_))) | refine end_ops ?_ | refine seq_ops ?_ | (refine cond_f rfl ?_ ?_; (· first | rfl | assumption | (refine decide_eq_false ?_; first | assumption | omega) | (refine nf ?_; first | assumption | omega) | (simp [*]; done))) | refine skip_then ?_ | refine AW_seq ?_ | refine AW_ret ?_ | refine ret_done ?_)
        exact outs_b (by simp [h1, h2, h3])
      · repeat (first | (refine step_ops ?_; (first | (refine m_mov (by conv => lhs; whnf) ?_) | (refine m_neq rfl rfl ?_) | (apply m_ld_pt; (· rfl); (· rfl); (· rfl)) | (refine m_fa rfl ?_))) | refine end_ops ?_ | refine seq_ops ?_ | (refine cond_t rfl ?_ ?_; (· first | rfl | assumption | (refine decide_eq_true ?_; first | assumption | omega) | (refine nt ?_; first | assumption | omega) | (simp [*]; done))) | (refine cond_f rfl ?_ ?_; (· first | rfl | assumption | (refine decide_eq_false ?_; first | assumption | omega) | (refine nf ?_; first | assumption | omega) | (simp [*]; done))) | refine skip_then ?_ | refine AW_seq ?_ | refine AW_ret ?_ | refine ret_done ?_ | refine ret_then ?_)
        exact outs_b (by simp [h3])
    · repeat (first | (refine step_ops ?_; (first | (refine m_mov (by conv => lhs; whnf) ?_) | (refine m_neq rfl rfl ?_) | (apply m_ld_pt; (· rfl); (· rfl); (· rfl)) | (refine m_fa rfl ?_))) | refine end_ops ?_ | refine seq_ops ?_ | (refine cond_t rfl ?_ ?_; (· first | rfl | assumption | (refine decide_eq_true ?_; first | assumption | omega) | (refine nt ?_; first | assumption | omega) | (simp [*]; done))) | (refine cond_f rfl ?_ ?_; (· first | rfl | assumption | (refine decide_eq_false ?_; first | assumption | omega) | (refine nf ?_; first | assumption | omega) | (simp [*]; done))) | refine skip_then ?_ | refine AW_seq ?_ | refine AW_ret ?_ | refine ret_done ?_ | refine ret_then ?_)
      exact outs_b (by simp [h2])
  · repeat (first | (refine step_ops ?_; (first | (refine m_mov (by conv => lhs; whnf) ?_) | (refine m_neq rfl rfl ?_) | (apply m_ld_pt; (· rfl); (· rfl); (· rfl)) | (refine m_fa rfl ?_))) | refine end_ops ?_ | refine seq_ops ?_ | (refine cond_t rfl ?_ ?_; (· first | rfl | assumption | (refine decide_eq_true ?_; first | assumption | omega) | (refine nt ?_; first | assumption | omega) | (simp [*]; done))) | refine AW_seq ?_ | refine AW_ret ?_ | refine ret_done ?_ | refine ret_then ?_)
    exact outs_b (by simp [h1])
theorem eqClueS_spec (C D : List Clu) (hC : C.length ≤ 1048576) : Sp Try.prog 58 [.ro false 3 (cls C) C.length, .ro false 3 (cls D) D.length] (.b (decide (C = D))) := by
  refine spec_of Try.func58 rfl cc58 rfl ?_
  unfold ac58
  by_cases hlen : C.length = D.length
  · have hlen' : (decide ((C.length : Int) ≠ D.length)) = false := by simp [hlen]
    repeat (first | (refine step_ops ?_; (first | (refine m_mov (by conv => lhs; whnf) ?_) | (refine m_neq rfl rfl ?_) | (refine m_len_ro rfl ?_))) | refine end_ops ?_ | refine seq_ops ?_ | (refine cond_f rfl ?_ ?_; (· first | rfl | assumption | (refine decide_eq_false ?_; first | assumption | omega) | (refine nf ?_; first | assumption | omega) | (simp [*]; done))) | refine skip_then ?_ | refine AW_seq ?_ | refine AW_block ?_)
    refine AW_loop (α := Nat) (fun k => k ≤ C.length ∧ C.take k = D.take k) (fun k => st [(0, .ro false 3 (cls C) C.length), (1, .ro false 3 (cls D) D.length), (5, .i k)] []) (fun k => C.length - k) 0 (by simp) (weak_st ?_ ?_ rfl rfl) ?_
    · (repeat' (first | exact trivial | refine And.intro ?_ ?_)) <;> (first | rfl | skip)
    · trivial
    rintro k ⟨hk, he⟩
    by_cases h : k < C.length
    · have h' : k < D.length := by omega
      have hsn := take_snoc C k (0, 0, 0) h
      have hsn' := take_snoc D k (0, 0, 0) h'
      have hne : C.getD k (0, 0, 0) ≠ D.getD k (0, 0, 0) → ¬ C = D := fun hx e => hx (by rw [e])
      rcases hce : C.getD k (0, 0, 0) with ⟨c1, c2, c3⟩
      rcases hcd : D.getD k (0, 0, 0) with ⟨d1, d2, d3⟩
      rw [hce] at hsn
      rw [hcd] at hsn'
      rw [hce, hcd] at hne
      have heq := eqClue_spec c1 c2 c3 d1 d2 d3
      by_cases hx : ((c1, c2, c3) : Clu) = (d1, d2, d3)
      · rw [decide_eq_true hx] at heq
        repeat (first | ((first | refine step_ops ?_ | refine step_tree ?_); (first | (refine m_mov (by conv => lhs; whnf) ?_) | (refine m_lss rfl rfl ?_) | (refine m_len_ro rfl ?_) | (refine m_idx_ro rfl rfl ?_ ?_ ?_; (· omega); (· omega)))) | refine end_ops ?_ | refine seq_ops ?_ | refine seq_tree ?_ | (refine cond_t rfl ?_ ?_; (· first | rfl | assumption | (refine decide_eq_true ?_; first | assumption | omega) | (refine nt ?_; first | assumption | omega) | (simp [*]; done))) | refine skip_then ?_ | refine AW_seq ?_ | refine AW_block ?_)
        refine step_tree ?_
        refine m_ldClu h hce rfl ?_
        repeat (refine step_tree ?_; (first | (refine m_mov (by conv => lhs; whnf) ?_) | (refine m_idx_ro rfl rfl ?_ ?_ ?_; (· omega); (· omega))))
        refine step_tree ?_
        refine m_ldClu h' hcd rfl ?_
        skip
        refine step_tree ?_; (apply m_call (heq)); (· repeat (first | exact lends_nil | (refine lends_cons ?_ ?_; (· (refine lend_agg ?_; first | rfl | assumption | (simp [plainV]; done))))))
        repeat (first | ((first | refine step_ops ?_ | refine step_tree ?_); (first | (refine m_mov (by conv => lhs; whnf) ?_) | (refine m_add rfl rfl ?_ ?_ ?_; (· omega); (· omega)) | (refine m_not rfl ?_))) | refine end_ops ?_ | refine AW_ops ?_ | refine end_tree ?_ | (refine cond_f rfl ?_ ?_; (· first | rfl | assumption | (refine decide_eq_false ?_; first | assumption | omega) | (refine nf ?_; first | assumption | omega) | (simp [*]; done))) | refine norm_then ?_ | refine norm_block ?_ | refine AW_skip ?_)
        refine next_round (k + 1) ⟨h, ?_⟩ (weak_st ?_ ?_ rfl rfl) ?_
        · rw [hsn, hsn', he, hx]
        · (repeat' (first | exact trivial | refine And.intro ?_ ?_)) <;> (first | rfl | skip)
        · trivial
        · omega
      · rw [decide_eq_false hx] at heq
        repeat (first | ((first | refine step_ops ?_ | refine step_tree ?_); (first | (refine m_mov (by conv => lhs; whnf) ?_) | (refine m_lss rfl rfl ?_) | (refine m_len_ro rfl ?_) | (refine m_idx_ro rfl rfl ?_ ?_ ?_; (· omega); (· omega)))) | refine end_ops ?_ | refine seq_ops ?_ | refine seq_tree ?_ | (refine cond_t rfl ?_ ?_; (· first | rfl | assumption | (refine decide_eq_true ?_; first | assumption | omega) | (refine nt ?_; first | assumption | omega) | (simp [*]; done))) | refine skip_then ?_ | refine AW_seq ?_ | refine AW_block ?_)
        refine step_tree ?_
        refine m_ldClu h hce rfl ?_
        repeat (refine step_tree ?_; (first | (refine m_mov (by conv => lhs; whnf) ?_) | (refine m_idx_ro rfl rfl ?_ ?_ ?_; (· omega); (· omega))))
        refine step_tree ?_
        refine m_ldClu h' hcd rfl ?_
        skip
        refine step_tree ?_; (apply m_call (heq)); (· repeat (first | exact lends_nil | (refine lends_cons ?_ ?_; (· (refine lend_agg ?_; first | rfl | assumption | (simp [plainV]; done))))))
        repeat (first | ((first | refine step_ops ?_ | refine step_tree ?_); (first | (refine m_mov (by conv => lhs; whnf) ?_) | (refine m_not rfl ?_))) | refine end_ops ?_ | refine seq_ops ?_ | refine end_tree ?_ | (refine cond_t rfl ?_ ?_; (· first | rfl | assumption | (refine decide_eq_true ?_; first | assumption | omega) | (refine nt ?_; first | assumption | omega) | (simp [*]; done))) | refine AW_ret ?_ | refine ret_done ?_ | refine ret_then ?_ | refine ret_block ?_ | refine ret_round ?_)
        exact outs_b (decide_eq_false (hne hx)).symm
    · obtain rfl : k = C.length := by omega
      rw [List.take_length, List.take_of_length_le (by omega)] at he
      repeat (first | (refine step_ops ?_; (first | (refine m_mov (by conv => lhs; whnf) ?_) | (refine m_lss rfl rfl ?_) | (refine m_len_ro rfl ?_))) | refine end_ops ?_ | refine seq_ops ?_ | (refine cond_f rfl ?_ ?_; (· first | rfl | assumption | (refine decide_eq_false ?_; first | assumption | omega) | (refine nf ?_; first | assumption | omega) | (simp [*]; done))) | refine AW_seq ?_ | refine AW_ret ?_ | refine ret_done ?_ | refine norm_then ?_ | refine exit_then ?_ | refine exit_round ?_ | refine AW_exit ?_ | refine exit_block ?_)
      exact outs_b (decide_eq_true he).symm
  · have hlen' : (decide ((C.length : Int) ≠ D.length)) = true := by simp; omega
    repeat (first | (refine step_ops ?_; (first | (refine m_mov (by conv => lhs; whnf) ?_) | (refine m_neq rfl rfl ?_) | (refine m_len_ro rfl ?_))) | refine end_ops ?_ | refine seq_ops ?_ | (refine cond_t rfl ?_ ?_; (· first | rfl | assumption | (refine decide_eq_true ?_; first | assumption | omega) | (refine nt ?_; first | assumption | omega) | (simp [*]; done))) | refine AW_seq ?_ | refine AW_ret ?_ | refine ret_done ?_ | refine ret_then ?_)
    exact outs_b (decide_eq_false fun e => hlen (by rw [e])).symm
theorem eqPuzzle_spec (g h : Int) (C D : List Clu) (hC : C.length ≤ 1048576) : Sp Try.prog 22 [pzl g C, pzl h D] (.b (decide (g = h ∧ C = D))) := by
  have hs := eqClueS_spec C D hC
  refine spec_of Try.func22 rfl cc22 rfl ?_
  unfold ac22
  by_cases hc : g = h
  · by_cases hx : C = D
    · rw [decide_eq_true hx] at hs
      repeat (first | (refine step_ops ?_; (first | (refine m_mov (by conv => lhs; whnf) ?_) | (refine m_neq rfl rfl ?_) | (apply m_ld_pt; (· rfl); (· rfl); (· rfl)) | (refine m_fa rfl ?_) | (refine m_box rfl ?_ ?_; (· first | rfl | (simp [cellOk, Value.oneCell']; done))))) | refine end_ops ?_ | refine seq_ops ?_ | (refine cond_f rfl ?_ ?_; (· first | rfl | assumption | (refine decide_eq_false ?_; first | assumption | omega) | (refine nf ?_; first | assumption | omega) | (simp [*]; done))) | refine skip_then ?_ | refine AW_seq ?_)
      (refine step_ops ?_); (apply m_call (hs)); (· repeat (first | exact lends_nil | (refine lends_cons ?_ ?_; (· exact lend_cls))))
      repeat (first | (refine step_ops ?_; (first | (refine m_mov (by conv => lhs; whnf) ?_) | (refine m_not rfl ?_))) | refine end_ops ?_ | refine seq_ops ?_ | (refine cond_f rfl ?_ ?_; (· first | rfl | assumption | (refine decide_eq_false ?_; first | assumption | omega) | (refine nf ?_; first | assumption | omega) | (simp [*]; done))) | refine skip_then ?_ | refine AW_ret ?_ | refine ret_done ?_)
      exact outs_b (by simp [hc, hx])
    · rw [decide_eq_false hx] at hs
      repeat (first | (refine step_ops ?_; (first | (refine m_mov (by conv => lhs; whnf) ?_) | (refine m_neq rfl rfl ?_) | (apply m_ld_pt; (· rfl); (· rfl); (· rfl)) | (refine m_fa rfl ?_) | (refine m_box rfl ?_ ?_; (· first | rfl | (simp [cellOk, Value.oneCell']; done))))) | refine end_ops ?_ | refine seq_ops ?_ | (refine cond_f rfl ?_ ?_; (· first | rfl | assumption | (refine decide_eq_false ?_; first | assumption | omega) | (refine nf ?_; first | assumption | omega) | (simp [*]; done))) | refine skip_then ?_ | refine AW_seq ?_)
      (refine step_ops ?_); (apply m_call (hs)); (· repeat (first | exact lends_nil | (refine lends_cons ?_ ?_; (· exact lend_cls))))
      repeat (first | (refine step_ops ?_; (first | (refine m_mov (by conv => lhs; whnf) ?_) | (refine m_not rfl ?_))) | refine end_ops ?_ | refine seq_ops ?_ | (refine cond_t rfl ?_ ?_; (· first | rfl | assumption | (refine decide_eq_true ?_; first | assumption | omega) | (refine nt ?_; first | assumption | omega) | (simp [*]; done))) | refine AW_ret ?_ | refine ret_done ?_ | refine ret_then ?_)
      exact outs_b (by simp [hx])
  · repeat (first | (refine step_ops ?_; (first | (refine m_mov (by conv => lhs; whnf) ?_) | (refine m_neq rfl rfl ?_) | (apply m_ld_pt; (· rfl); (· rfl); (· rfl)) | (refine m_fa rfl ?_) | (refine m_box rfl ?_ ?_; (· first | rfl | (simp [cellOk, Value.oneCell']; done))))) | refine end_ops ?_ | refine seq_ops ?_ | (refine cond_t rfl ?_ ?_; (· first | rfl | assumption | (refine decide_eq_true ?_; first | assumption | omega) | (refine nt ?_; first | assumption | omega) | (simp [*]; done))) | refine AW_seq ?_ | refine AW_ret ?_ | refine ret_done ?_ | refine ret_then ?_)
    exact outs_b (by simp [hc])
end Go.Proofs.Ytpohldecllkjbaa
namespace Go.Am
/-- k, k + 1, .. in clues. -/
def mkC (k : Int) (n : Nat) : List Clu := (List.range n).map fun (i : Nat) => (k + 3 * i, k + 3 * i + 1, k + 3 * i + 2)
theorem mkC_len (k : Int) (n : Nat) : (mkC k n).length = n := by simp [mkC]
theorem mkC_succ (k : Int) (n : Nat) : mkC k (n + 1) = mkC k n ++ [(k + 3 * n, k + 3 * n + 1, k + 3 * n + 2)] := by simp [mkC, List.range_succ]
def mkdC (C : List Clu) (k : Int) (j : Nat) : List Clu := mkC k j ++ C.drop j
theorem mkdC_len (C : List Clu) (k : Int) (j : Nat) (h : j ≤ C.length) : (mkdC C k j).length = C.length := by simp [mkdC, mkC_len]; omega
theorem mkdC_zero (C : List Clu) (k : Int) : mkdC C k 0 = C := by simp [mkdC, mkC]
theorem mkdC_all (C : List Clu) (k : Int) : mkdC C k C.length = mkC k C.length := by simp [mkdC]
theorem mkdC_set (C : List Clu) (k : Int) (j : Nat) (h : j < C.length) : (mkdC C k j).set j (k + 3 * j, k + 3 * j + 1, k + 3 * j + 2) = mkdC C k (j + 1) := by
  unfold mkdC
  rw [mkC_succ, List.set_append_right _ _ (by rw [mkC_len]; omega), mkC_len, Nat.sub_self, List.drop_eq_getElem_cons h, List.set_cons_zero]
  simp
theorem cls_set3 {C : List Clu} {k : Nat} {a b c : Int} (h : k < C.length) : (((cls C).set (k * 3) (.i a)).set (k * 3 + 1) (.i b)).set (k * 3 + 2) (.i c) = cls (C.set k (a, b, c)) := by
  have hl := cls_len C
  rw [← cls_put (a, b, c) h]
  apply List.ext_getElem?
  intro i
  have e : ((cls C).take (k * 3)).length = k * 3 := by rw [List.length_take, hl]; omega
  by_cases h1 : i < k * 3
  · rw [List.append_assoc, List.getElem?_append_left (by omega), List.getElem?_take, if_pos h1, List.getElem?_set_ne (by omega), List.getElem?_set_ne (by omega), List.getElem?_set_ne (by omega)]
  · rw [List.append_assoc, List.getElem?_append_right (by omega), e]
    rcases (show i = k * 3 ∨ i = k * 3 + 1 ∨ i = k * 3 + 2 ∨ k * 3 + 3 ≤ i by omega) with rfl | rfl | rfl | h2
    · rw [List.getElem?_set_ne (by omega), List.getElem?_set_ne (by omega), List.getElem?_set_self (by omega), Nat.sub_self]
      rfl
    · rw [List.getElem?_set_ne (by omega), List.getElem?_set_self (by rw [List.length_set]; omega), Nat.add_sub_cancel_left]
      rfl
    · rw [List.getElem?_set_self (by rw [List.length_set, List.length_set]; omega), Nat.add_sub_cancel_left]
      rfl
    · rw [List.getElem?_set_ne (by omega), List.getElem?_set_ne (by omega), List.getElem?_set_ne (by omega), List.getElem?_append_right (by simp [cC]; omega), List.getElem?_drop]
      congr 1
      simp [cC]
      omega
end Go.Am
namespace Go.Proofs.Ytpohldecllkjbaa
open Go.Am
attribute [local irreducible] AW Outs Weak Lends Lend Sp aops atree aop1 Then Round InBlock Done
attribute [local irreducible] SpM DoneM SpH DoneH
theorem markClueS_spec (C : List Clu) (k : Int) (hC : C.length ≤ 1048576) (h0 : 0 ≤ k) (h1 : k ≤ 1099511627776) :
    SpM Try.prog 60 3 C.length (cls C) [.i k] (.i (k + 3 * C.length)) (cls (mkC k C.length)) := by
  refine specM_of Try.func60 rfl cc60 rfl (by first | exact allv_ints _ | exact txs_plain _ | exact cls_plain _) (by first | exact allv_ints _ | exact txs_plain _ | exact cls_plain _) rfl ?_
  unfold ac60
  repeat (first | (refine step_ops ?_; (refine m_mov (by conv => lhs; whnf) ?_)) | refine end_ops ?_ | refine seq_ops ?_ | refine AW_seq ?_ | refine AW_block ?_)
  refine AW_loop (α := Nat) (fun j => j ≤ C.length) (fun j => st [(0, .sl pbase 3 0 C.length), (1, .i (k + 3 * j)), (5, .i j)] [(pbase, (true, cls (mkdC C k j)))]) (fun j => C.length - j) 0 (by omega) (weak_st ?_ ?_ rfl rfl) ?_
  · refine ⟨rfl, ?_, rfl, trivial⟩
    show AV.i k = AV.i (k + 3 * (0 : Nat))
    simp
  · refine ⟨?_, trivial⟩
    rw [mkdC_zero]
    rfl
  intro j hj
  have hml := mkdC_len C k j hj
  have hcl := cls_len (mkdC C k j)
  by_cases h : j < C.length
  · have hs3 := cls_set3 (C := mkdC C k j) (k := j) (a := k + 3 * j) (b := k + 3 * j + 1) (c := k + 3 * j + 2) (by omega)
    rw [mkdC_set C k j h] at hs3
    repeat (first | (refine step_ops ?_; (first | (refine m_mov (by conv => lhs; whnf) ?_) | (refine m_lss rfl rfl ?_) | (refine m_add rfl rfl ?_ ?_ ?_; (· omega); (· omega)) | (refine m_len_sl rfl ?_) | (refine m_idx_sl rfl rfl ?_ ?_ ?_; (· omega); (· omega)) | (apply m_st; (· rfl); (· rfl); (· rfl); (· first | omega | (simp; done) | (simp; omega)); (· rfl)) | (refine m_fa rfl ?_))) | refine end_ops ?_ | refine seq_ops ?_ | refine AW_ops ?_ | (refine cond_t rfl ?_ ?_; (· first | rfl | assumption | (refine decide_eq_true ?_; first | assumption | omega) | (refine nt ?_; first | assumption | omega) | (simp [*]; done))) | refine skip_then ?_ | refine AW_seq ?_ | refine norm_then ?_ | refine AW_block ?_ | refine norm_block ?_)
    refine next_round (j + 1) h (weak_st ?_ ?_ rfl rfl) ?_
    · refine ⟨rfl, ?_, rfl, trivial⟩
      show AV.i (k + 3 * (j : Int) + 1 + 1 + 1) = AV.i (k + 3 * ((j + 1 : Nat) : Int))
      rw [show k + 3 * (j : Int) + 1 + 1 + 1 = k + 3 * ((j + 1 : Nat) : Int) by omega]
    · refine ⟨?_, trivial⟩
      show some (true, (((cls (mkdC C k j)).set (0 + ((j : Nat) : Int).toNat * 3 + 0) (AV.i (k + 3 * j))).set (0 + ((j : Nat) : Int).toNat * 3 + 1) (AV.i (k + 3 * j + 1))).set (0 + ((j : Nat) : Int).toNat * 3 + 2) (AV.i (k + 3 * j + 1 + 1))) = _
      rw [Int.toNat_natCast, Nat.zero_add, Nat.add_zero, ← hs3, show k + 3 * (j : Int) + 1 + 1 = k + 3 * j + 2 by omega]
    · omega
  · obtain rfl : j = C.length := by omega
    repeat (first | (refine step_ops ?_; (first | (refine m_mov (by conv => lhs; whnf) ?_) | (refine m_lss rfl rfl ?_) | (refine m_len_sl rfl ?_))) | refine end_ops ?_ | refine seq_ops ?_ | (refine cond_f rfl ?_ ?_; (· first | rfl | assumption | (refine decide_eq_false ?_; first | assumption | omega) | (refine nf ?_; first | assumption | omega) | (simp [*]; done))) | refine AW_seq ?_ | refine AW_ret ?_ | refine norm_then ?_ | refine exit_then ?_ | refine exit_round ?_ | refine AW_exit ?_ | refine exit_block ?_)
    refine ret_donem rfl ?_
    rw [← mkdC_all]
    rfl
theorem static_lenC (C M : List Clu) (x : Value) : Static (Am.look (lenH (cls C))) (.v x) (Am.look (lenH (cls M))) :=
  static_R (by simp) (fun p hp => by rw [List.mem_singleton] at hp; subst hp; exact ⟨pl_own _ (cls_plain M), refsL_plain (cls_plain M)⟩) ⟨rfl, rfl⟩
theorem markPuzzle_spec (g : Int) (C : List Clu) (k : Int) (hC : C.length ≤ 1048576) (h0 : 0 ≤ k) (h1 : k ≤ 1099511627776) :
    SpH Try.prog 28 [.agg [.i g, .sl pbase 3 0 C.length], .i k] (Am.look (lenH (cls C))) (.i (k + 3 * C.length)) (Am.look (lenH (cls (mkC k C.length)))) := by
  have hst := static_lenC C (mkC k C.length) (.int .i64 (k + 3 * C.length))
  refine specH_of Try.func28 rfl cc28 rfl (by first | exact static_mat1 _ | exact static_mat2 _ _ | assumption) ?_
  unfold ac28
  refine seq_ops ?_
  refine step_ops ?_
  refine m_boxd (l := [.i g, .sl pbase 3 0 C.length]) rfl rfl rfl ?_
  repeat (first | (refine step_ops ?_; (first | (refine m_mov (by conv => lhs; whnf) ?_) | (apply m_ld_pt; (· rfl); (· rfl); (· rfl)) | (refine m_fa rfl ?_))) | refine end_ops ?_ | refine seq_ops ?_)
  refine step_ops ?_
  refine m_callm (markClueS_spec C k hC h0 h1) rfl rfl rfl (cls_plain _) (cls_plain _) rfl ?_
  repeat (first | (refine step_ops ?_; (refine m_mov (by conv => lhs; whnf) ?_)) | refine end_ops ?_ | refine seq_ops ?_ | refine AW_ret ?_)
  refine ret_R id (by rfl) ?_ (by simp) (by simp) (by simp)
  refine ⟨⟨_, rfl, .inl ?_⟩, trivial⟩
  exact congrArg (Prod.mk true) (pl_ren _ (cls_plain _)).symm
end Go.Proofs.Ytpohldecllkjbaa
namespace Go.Am
theorem g_undc {P : Program} {own : Bool} {s : AS} {K : AS → Prop} {d : Option Nat} {op : AOp} {t : Nat} {w : Bool} (h : s.tm t = .v undef) (k : K (s.put d (.v undef))) : aop1 P own ⟨d, op, some (t, w)⟩ s K := .inr ⟨h, k⟩
end Go.Am
namespace Go.Proofs.Ytpohldecllkjbaa
open Go.Am
attribute [local irreducible] AW Outs Weak Lends Lend Sp aops atree aop1 Then Round InBlock Done
theorem guest_le (a g : Int) : decide (0 ≤ a ∧ a < g) = decide (0 ≤ a ∧ a ≤ g - 1) := decide_eq_decide.2 ⟨fun h => ⟨h.1, by omega⟩, fun h => ⟨h.1, by omega⟩⟩
theorem canTell_spec (g k a b : Int) : Sp Try.prog 88 [.agg [.i k, .i a, .i b], .i g] (.b (decide (IsClu g (k, a, b)))) := by
  have ga := isGuest_spec a g
  have gb := isGuest_spec b g
  rw [guest_le] at ga gb
  refine spec_of Try.func88 rfl cc88 rfl ?_
  unfold ac88
  refine seq_ops ?_
  refine step_ops ?_
  refine m_box (l := [.i k, .i a, .i b]) rfl rfl ?_
  by_cases h0 : k = 0
  · have hi : IsClu g (k, a, b) ↔ (0 ≤ a ∧ a ≤ g - 1) ∧ (0 ≤ b ∧ b ≤ g - 1) := isClu_01 (.inl h0)
    rw [decide_eq_decide.2 hi]
    by_cases ha : (0 ≤ a ∧ a ≤ g - 1)
    · have hd : decide ((0 ≤ a ∧ a ≤ g - 1) ∧ (0 ≤ b ∧ b ≤ g - 1)) = decide ((0 ≤ b ∧ b ≤ g - 1)) := by simp [ha]
      rw [hd]
      rw [decide_eq_true ha] at ga
      repeat (first | (refine step_ops ?_; (first | (refine m_mov (by conv => lhs; whnf) ?_) | (refine m_eql rfl rfl ?_) | (apply m_ld_pt; (· rfl); (· rfl); (· rfl)) | (refine m_fa rfl ?_))) | refine end_ops ?_ | refine seq_ops ?_ | (refine cond_t rfl ?_ ?_; (· first | rfl | assumption | (refine decide_eq_true ?_; first | assumption | omega) | (refine nt ?_; first | assumption | omega) | (simp [*]; done))) | refine skip_then ?_ | refine AW_seq ?_ | refine AW_block ?_)
      (refine step_ops ?_); (apply m_call (ga)); (· repeat (first | exact lends_nil | (refine lends_cons ?_ ?_; (· exact lend_v))))
      repeat (refine step_ops ?_; ((try (refine g_yes rfl ?_ ?_; (· first | rfl | assumption | (refine decide_eq_true ?_; first | assumption | omega) | (refine nt ?_; first | assumption | omega) | (simp [*]; done) | (refine decide_eq_false ?_; first | assumption | omega) | (refine nf ?_; first | assumption | omega)))); (first | (refine m_mov (by conv => lhs; whnf) ?_) | (apply m_ld_pt; (· rfl); (· rfl); (· rfl)) | (refine m_fa rfl ?_))))
      (refine step_ops ?_); (refine g_yes rfl ?_ ?_; (· first | (first | rfl | assumption | (refine decide_eq_true ?_; first | assumption | omega) | (refine nt ?_; first | assumption | omega) | (simp [*]; done)) | (first | rfl | assumption | (refine decide_eq_false ?_; first | assumption | omega) | (refine nf ?_; first | assumption | omega) | (simp [*]; done))); (apply m_call (gb))); (· repeat (first | exact lends_nil | (refine lends_cons ?_ ?_; (· exact lend_v))))
      repeat (first | (refine step_ops ?_; (first | (refine m_mov (by conv => lhs; whnf) ?_) | (refine m_pick_t rfl ?_ (by conv => lhs; whnf) ?_; (· first | rfl | assumption | (refine decide_eq_true ?_; first | assumption | omega) | (refine nt ?_; first | assumption | omega) | (simp [*]; done))))) | refine end_ops ?_ | refine AW_ret ?_ | refine ret_done ?_ | refine ret_block ?_)
      exact outs_b rfl
    · have hd : decide ((0 ≤ a ∧ a ≤ g - 1) ∧ (0 ≤ b ∧ b ≤ g - 1)) = false := by simp [ha]
      rw [hd]
      rw [decide_eq_false ha] at ga
      repeat (first | (refine step_ops ?_; (first | (refine m_mov (by conv => lhs; whnf) ?_) | (refine m_eql rfl rfl ?_) | (apply m_ld_pt; (· rfl); (· rfl); (· rfl)) | (refine m_fa rfl ?_))) | refine end_ops ?_ | refine seq_ops ?_ | (refine cond_t rfl ?_ ?_; (· first | rfl | assumption | (refine decide_eq_true ?_; first | assumption | omega) | (refine nt ?_; first | assumption | omega) | (simp [*]; done))) | refine skip_then ?_ | refine AW_seq ?_ | refine AW_block ?_)
      (refine step_ops ?_); (apply m_call (ga)); (· repeat (first | exact lends_nil | (refine lends_cons ?_ ?_; (· exact lend_v))))
      repeat (first | (refine step_ops ?_; (first | (first | (refine m_mov (by conv => lhs; whnf) ?_) | (refine m_pick_f rfl ?_ (by conv => lhs; whnf) ?_; (· first | rfl | assumption | (refine decide_eq_false ?_; first | assumption | omega) | (refine nf ?_; first | assumption | omega) | (simp [*]; done)))) | (refine g_noT rfl ?_ ?_; (· first | rfl | assumption | (refine decide_eq_false ?_; first | assumption | omega) | (refine nf ?_; first | assumption | omega) | (simp [*]; done))))) | refine end_ops ?_ | refine AW_ret ?_ | refine ret_done ?_ | refine ret_block ?_)
      exact outs_b rfl
  by_cases h1 : k = 1
  · have hi : IsClu g (k, a, b) ↔ (0 ≤ a ∧ a ≤ g - 1) ∧ (0 ≤ b ∧ b ≤ g - 1) := isClu_01 (.inr h1)
    rw [decide_eq_decide.2 hi]
    by_cases ha : (0 ≤ a ∧ a ≤ g - 1)
    · have hd : decide ((0 ≤ a ∧ a ≤ g - 1) ∧ (0 ≤ b ∧ b ≤ g - 1)) = decide ((0 ≤ b ∧ b ≤ g - 1)) := by simp [ha]
      rw [hd]
      rw [decide_eq_true ha] at ga
      repeat (first | (refine step_ops ?_; (first | (refine m_mov (by conv => lhs; whnf) ?_) | (refine m_eql rfl rfl ?_) | (apply m_ld_pt; (· rfl); (· rfl); (· rfl)) | (refine m_fa rfl ?_))) | refine end_ops ?_ | refine seq_ops ?_ | refine AW_ops ?_ | (refine cond_t rfl ?_ ?_; (· first | rfl | assumption | (refine decide_eq_true ?_; first | assumption | omega) | (refine nt ?_; first | assumption | omega) | (simp [*]; done))) | (refine cond_f rfl ?_ ?_; (· first | rfl | assumption | (refine decide_eq_false ?_; first | assumption | omega) | (refine nf ?_; first | assumption | omega) | (simp [*]; done))) | refine AW_seq ?_ | refine norm_then ?_ | refine AW_block ?_)
      (refine step_ops ?_); (apply m_call (ga)); (· repeat (first | exact lends_nil | (refine lends_cons ?_ ?_; (· exact lend_v))))
      repeat (refine step_ops ?_; ((try (refine g_yes rfl ?_ ?_; (· first | rfl | assumption | (refine decide_eq_true ?_; first | assumption | omega) | (refine nt ?_; first | assumption | omega) | (simp [*]; done) | (refine decide_eq_false ?_; first | assumption | omega) | (refine nf ?_; first | assumption | omega)))); (first | (refine m_mov (by conv => lhs; whnf) ?_) | (apply m_ld_pt; (· rfl); (· rfl); (· rfl)) | (refine m_fa rfl ?_))))
      (refine step_ops ?_); (refine g_yes rfl ?_ ?_; (· first | (first | rfl | assumption | (refine decide_eq_true ?_; first | assumption | omega) | (refine nt ?_; first | assumption | omega) | (simp [*]; done)) | (first | rfl | assumption | (refine decide_eq_false ?_; first | assumption | omega) | (refine nf ?_; first | assumption | omega) | (simp [*]; done))); (apply m_call (gb))); (· repeat (first | exact lends_nil | (refine lends_cons ?_ ?_; (· exact lend_v))))
      repeat (first | (refine step_ops ?_; (first | (refine m_mov (by conv => lhs; whnf) ?_) | (refine m_pick_t rfl ?_ (by conv => lhs; whnf) ?_; (· first | rfl | assumption | (refine decide_eq_true ?_; first | assumption | omega) | (refine nt ?_; first | assumption | omega) | (simp [*]; done))))) | refine end_ops ?_ | refine AW_ret ?_ | refine ret_done ?_ | refine ret_block ?_)
      exact outs_b rfl
    · have hd : decide ((0 ≤ a ∧ a ≤ g - 1) ∧ (0 ≤ b ∧ b ≤ g - 1)) = false := by simp [ha]
      rw [hd]
      rw [decide_eq_false ha] at ga
      repeat (first | (refine step_ops ?_; (first | (refine m_mov (by conv => lhs; whnf) ?_) | (refine m_eql rfl rfl ?_) | (apply m_ld_pt; (· rfl); (· rfl); (· rfl)) | (refine m_fa rfl ?_))) | refine end_ops ?_ | refine seq_ops ?_ | refine AW_ops ?_ | (refine cond_t rfl ?_ ?_; (· first | rfl | assumption | (refine decide_eq_true ?_; first | assumption | omega) | (refine nt ?_; first | assumption | omega) | (simp [*]; done))) | (refine cond_f rfl ?_ ?_; (· first | rfl | assumption | (refine decide_eq_false ?_; first | assumption | omega) | (refine nf ?_; first | assumption | omega) | (simp [*]; done))) | refine AW_seq ?_ | refine norm_then ?_ | refine AW_block ?_)
      (refine step_ops ?_); (apply m_call (ga)); (· repeat (first | exact lends_nil | (refine lends_cons ?_ ?_; (· exact lend_v))))
      repeat (first | (refine step_ops ?_; (first | (first | (refine m_mov (by conv => lhs; whnf) ?_) | (refine m_pick_f rfl ?_ (by conv => lhs; whnf) ?_; (· first | rfl | assumption | (refine decide_eq_false ?_; first | assumption | omega) | (refine nf ?_; first | assumption | omega) | (simp [*]; done)))) | (refine g_noT rfl ?_ ?_; (· first | rfl | assumption | (refine decide_eq_false ?_; first | assumption | omega) | (refine nf ?_; first | assumption | omega) | (simp [*]; done))))) | refine end_ops ?_ | refine AW_ret ?_ | refine ret_done ?_ | refine ret_block ?_)
      exact outs_b rfl
  by_cases h2 : k = 2
  · have hi : IsClu g (k, a, b) ↔ (0 ≤ a ∧ a ≤ g) ∧ b = 0 := by
      subst h2; exact isClu_2
    rw [show decide (IsClu g (k, a, b)) = decide ((0 ≤ a ∧ a ≤ g) ∧ b = 0) from decide_eq_decide.2 hi]
    by_cases ha : 0 ≤ a
    all_goals by_cases hb : a ≤ g
    all_goals
      repeat (first | (refine step_ops ?_; (first | ((try (refine g_yes rfl ?_ ?_; (· first | rfl | assumption | (refine decide_eq_true ?_; first | assumption | omega) | (refine nt ?_; first | assumption | omega) | (simp [*]; done) | (refine decide_eq_false ?_; first | assumption | omega) | (refine nf ?_; first | assumption | omega)))); (first | (refine m_mov (by conv => lhs; whnf) ?_) | (refine m_leq rfl rfl ?_) | (refine m_geq rfl rfl ?_) | (refine m_eql rfl rfl ?_) | (apply m_ld_pt; (· rfl); (· rfl); (· rfl)) | (refine m_pick_t rfl ?_ (by conv => lhs; whnf) ?_; (· first | rfl | assumption | (refine decide_eq_true ?_; first | assumption | omega) | (refine nt ?_; first | assumption | omega) | (simp [*]; done))) | (refine m_pick_f rfl ?_ (by conv => lhs; whnf) ?_; (· first | rfl | assumption | (refine decide_eq_false ?_; first | assumption | omega) | (refine nf ?_; first | assumption | omega) | (simp [*]; done))) | (refine m_fa rfl ?_))) | (refine g_noT rfl ?_ ?_; (· first | rfl | assumption | (refine decide_eq_false ?_; first | assumption | omega) | (refine nf ?_; first | assumption | omega) | (simp [*]; done))))) | refine end_ops ?_ | refine seq_ops ?_ | refine AW_ops ?_ | (refine cond_t rfl ?_ ?_; (· first | rfl | assumption | (refine decide_eq_true ?_; first | assumption | omega) | (refine nt ?_; first | assumption | omega) | (simp [*]; done))) | (refine cond_f rfl ?_ ?_; (· first | rfl | assumption | (refine decide_eq_false ?_; first | assumption | omega) | (refine nf ?_; first | assumption | omega) | (simp [*]; done))) | refine AW_seq ?_ | refine AW_ret ?_ | refine ret_done ?_ | refine norm_then ?_ | refine AW_block ?_ | refine ret_block ?_)
      refine outs_b ?_
      simp [*]
  by_cases h3 : k = 3
  · have hi : IsClu g (k, a, b) ↔ (1 ≤ a ∧ a ≤ g) ∧ b = 0 := by
      subst h3; exact isClu_3
    rw [show decide (IsClu g (k, a, b)) = decide ((1 ≤ a ∧ a ≤ g) ∧ b = 0) from decide_eq_decide.2 hi]
    by_cases ha : 1 ≤ a
    all_goals by_cases hb : a ≤ g
    all_goals
      repeat (first | (refine step_ops ?_; (first | ((try (refine g_yes rfl ?_ ?_; (· first | rfl | assumption | (refine decide_eq_true ?_; first | assumption | omega) | (refine nt ?_; first | assumption | omega) | (simp [*]; done) | (refine decide_eq_false ?_; first | assumption | omega) | (refine nf ?_; first | assumption | omega)))); (first | (refine m_mov (by conv => lhs; whnf) ?_) | (refine m_leq rfl rfl ?_) | (refine m_geq rfl rfl ?_) | (refine m_eql rfl rfl ?_) | (apply m_ld_pt; (· rfl); (· rfl); (· rfl)) | (refine m_pick_t rfl ?_ (by conv => lhs; whnf) ?_; (· first | rfl | assumption | (refine decide_eq_true ?_; first | assumption | omega) | (refine nt ?_; first | assumption | omega) | (simp [*]; done))) | (refine m_pick_f rfl ?_ (by conv => lhs; whnf) ?_; (· first | rfl | assumption | (refine decide_eq_false ?_; first | assumption | omega) | (refine nf ?_; first | assumption | omega) | (simp [*]; done))) | (refine m_fa rfl ?_))) | (refine g_noT rfl ?_ ?_; (· first | rfl | assumption | (refine decide_eq_false ?_; first | assumption | omega) | (refine nf ?_; first | assumption | omega) | (simp [*]; done))))) | refine end_ops ?_ | refine seq_ops ?_ | refine AW_ops ?_ | (refine cond_t rfl ?_ ?_; (· first | rfl | assumption | (refine decide_eq_true ?_; first | assumption | omega) | (refine nt ?_; first | assumption | omega) | (simp [*]; done))) | (refine cond_f rfl ?_ ?_; (· first | rfl | assumption | (refine decide_eq_false ?_; first | assumption | omega) | (refine nf ?_; first | assumption | omega) | (simp [*]; done))) | refine AW_seq ?_ | refine AW_ret ?_ | refine ret_done ?_ | refine norm_then ?_ | refine AW_block ?_ | refine ret_block ?_)
      refine outs_b ?_
      simp [*]
  by_cases h4 : k = 4
  · have hi : IsClu g (k, a, b) ↔ (0 ≤ a ∧ a ≤ g - 1) ∧ (0 ≤ b ∧ b ≤ 1) := by
      subst h4; exact isClu_4
    rw [decide_eq_decide.2 hi]
    by_cases ha : (0 ≤ a ∧ a ≤ g - 1)
    · have hd : decide ((0 ≤ a ∧ a ≤ g - 1) ∧ (0 ≤ b ∧ b ≤ 1)) = decide (b = 0 ∨ b = 1) := decide_eq_decide.2 ⟨fun h => by omega, fun h => ⟨ha, by omega⟩⟩
      rw [hd]
      rw [decide_eq_true ha] at ga
      by_cases hb : b = 0
      all_goals
        repeat (first | (refine step_ops ?_; (first | (refine m_mov (by conv => lhs; whnf) ?_) | (refine m_eql rfl rfl ?_) | (apply m_ld_pt; (· rfl); (· rfl); (· rfl)) | (refine m_fa rfl ?_))) | refine end_ops ?_ | refine seq_ops ?_ | refine AW_ops ?_ | (refine cond_t rfl ?_ ?_; (· first | rfl | assumption | (refine decide_eq_true ?_; first | assumption | omega) | (refine nt ?_; first | assumption | omega) | (simp [*]; done))) | (refine cond_f rfl ?_ ?_; (· first | rfl | assumption | (refine decide_eq_false ?_; first | assumption | omega) | (refine nf ?_; first | assumption | omega) | (simp [*]; done))) | refine AW_seq ?_ | refine norm_then ?_ | refine AW_block ?_)
        (refine step_ops ?_); (apply m_call (ga)); (· repeat (first | exact lends_nil | (refine lends_cons ?_ ?_; (· exact lend_v))))
        repeat (first | (refine step_ops ?_; (first | ((try (refine g_yes rfl ?_ ?_; (· first | rfl | assumption | (refine decide_eq_true ?_; first | assumption | omega) | (refine nt ?_; first | assumption | omega) | (simp [*]; done) | (refine decide_eq_false ?_; first | assumption | omega) | (refine nf ?_; first | assumption | omega)))); (first | (refine m_mov (by conv => lhs; whnf) ?_) | (refine m_eql rfl rfl ?_) | (apply m_ld_pt; (· rfl); (· rfl); (· rfl)) | (refine m_pick_t rfl ?_ (by conv => lhs; whnf) ?_; (· first | rfl | assumption | (refine decide_eq_true ?_; first | assumption | omega) | (refine nt ?_; first | assumption | omega) | (simp [*]; done))) | (refine m_pick_f rfl ?_ (by conv => lhs; whnf) ?_; (· first | rfl | assumption | (refine decide_eq_false ?_; first | assumption | omega) | (refine nf ?_; first | assumption | omega) | (simp [*]; done))) | (refine m_fa rfl ?_))) | (refine g_noF rfl ?_ ?_; (· first | rfl | assumption | (refine decide_eq_true ?_; first | assumption | omega) | (refine nt ?_; first | assumption | omega) | (simp [*]; done))))) | refine end_ops ?_ | refine AW_ret ?_ | refine ret_done ?_ | refine ret_block ?_)
        refine outs_b ?_
        simp [hb]
    · have hd : decide ((0 ≤ a ∧ a ≤ g - 1) ∧ (0 ≤ b ∧ b ≤ 1)) = false := by simp [ha]
      rw [hd]
      rw [decide_eq_false ha] at ga
      repeat (first | (refine step_ops ?_; (first | (refine m_mov (by conv => lhs; whnf) ?_) | (refine m_eql rfl rfl ?_) | (apply m_ld_pt; (· rfl); (· rfl); (· rfl)) | (refine m_fa rfl ?_))) | refine end_ops ?_ | refine seq_ops ?_ | refine AW_ops ?_ | (refine cond_t rfl ?_ ?_; (· first | rfl | assumption | (refine decide_eq_true ?_; first | assumption | omega) | (refine nt ?_; first | assumption | omega) | (simp [*]; done))) | (refine cond_f rfl ?_ ?_; (· first | rfl | assumption | (refine decide_eq_false ?_; first | assumption | omega) | (refine nf ?_; first | assumption | omega) | (simp [*]; done))) | refine AW_seq ?_ | refine norm_then ?_ | refine AW_block ?_)
      (refine step_ops ?_); (apply m_call (ga)); (· repeat (first | exact lends_nil | (refine lends_cons ?_ ?_; (· exact lend_v))))
      repeat (first | ((first | (refine step_ops ?_; (first | (first | (refine m_mov (by conv => lhs; whnf) ?_) | (refine m_pick_f rfl ?_ (by conv => lhs; whnf) ?_; (· first | rfl | assumption | (refine decide_eq_false ?_; first | assumption | omega) | (refine nf ?_; first | assumption | omega) | (simp [*]; done)))) | (refine g_noT rfl ?_ ?_; (· first | rfl | assumption | (refine decide_eq_false ?_; first | assumption | omega) | (refine nf ?_; first | assumption | omega) | (simp [*]; done))))) | refine end_ops ?_ | refine AW_ret ?_ | refine ret_done ?_ | refine ret_block ?_)) | (refine step_ops ?_; refine g_undc rfl ?_))
      exact outs_b rfl
  by_cases h5 : k = 5
  · have hi : IsClu g (k, a, b) ↔ (1 ≤ a ∧ a ≤ 6) ∧ b = 0 := by
      subst h5; exact isClu_5
    rw [show decide (IsClu g (k, a, b)) = decide ((1 ≤ a ∧ a ≤ 6) ∧ b = 0) from decide_eq_decide.2 hi]
    by_cases ha : 1 ≤ a
    · by_cases hb : a ≤ 6
      all_goals
        repeat (first | (refine step_ops ?_; (first | ((try (refine g_yes rfl ?_ ?_; (· first | rfl | assumption | (refine decide_eq_true ?_; first | assumption | omega) | (refine nt ?_; first | assumption | omega) | (simp [*]; done) | (refine decide_eq_false ?_; first | assumption | omega) | (refine nf ?_; first | assumption | omega)))); (first | (refine m_mov (by conv => lhs; whnf) ?_) | (refine m_leq rfl rfl ?_) | (refine m_geq rfl rfl ?_) | (refine m_eql rfl rfl ?_) | (apply m_ld_pt; (· rfl); (· rfl); (· rfl)) | (refine m_pick_t rfl ?_ (by conv => lhs; whnf) ?_; (· first | rfl | assumption | (refine decide_eq_true ?_; first | assumption | omega) | (refine nt ?_; first | assumption | omega) | (simp [*]; done))) | (refine m_pick_f rfl ?_ (by conv => lhs; whnf) ?_; (· first | rfl | assumption | (refine decide_eq_false ?_; first | assumption | omega) | (refine nf ?_; first | assumption | omega) | (simp [*]; done))) | (refine m_fa rfl ?_))) | (refine g_noT rfl ?_ ?_; (· first | rfl | assumption | (refine decide_eq_false ?_; first | assumption | omega) | (refine nf ?_; first | assumption | omega) | (simp [*]; done))))) | refine end_ops ?_ | refine seq_ops ?_ | refine AW_ops ?_ | (refine cond_t rfl ?_ ?_; (· first | rfl | assumption | (refine decide_eq_true ?_; first | assumption | omega) | (refine nt ?_; first | assumption | omega) | (simp [*]; done))) | (refine cond_f rfl ?_ ?_; (· first | rfl | assumption | (refine decide_eq_false ?_; first | assumption | omega) | (refine nf ?_; first | assumption | omega) | (simp [*]; done))) | refine AW_seq ?_ | refine AW_ret ?_ | refine ret_done ?_ | refine norm_then ?_ | refine AW_block ?_ | refine ret_block ?_)
        refine outs_b ?_
        simp [*]
    · repeat (first | (refine step_ops ?_; (first | (first | (refine m_mov (by conv => lhs; whnf) ?_) | (refine m_geq rfl rfl ?_) | (refine m_eql rfl rfl ?_) | (apply m_ld_pt; (· rfl); (· rfl); (· rfl)) | (refine m_pick_f rfl ?_ (by conv => lhs; whnf) ?_; (· first | rfl | assumption | (refine decide_eq_false ?_; first | assumption | omega) | (refine nf ?_; first | assumption | omega) | (simp [*]; done))) | (refine m_fa rfl ?_)) | (refine g_noT rfl ?_ ?_; (· first | rfl | assumption | (refine decide_eq_false ?_; first | assumption | omega) | (refine nf ?_; first | assumption | omega) | (simp [*]; done))))) | refine end_ops ?_ | refine seq_ops ?_ | refine AW_ops ?_ | (refine cond_t rfl ?_ ?_; (· first | rfl | assumption | (refine decide_eq_true ?_; first | assumption | omega) | (refine nt ?_; first | assumption | omega) | (simp [*]; done))) | (refine cond_f rfl ?_ ?_; (· first | rfl | assumption | (refine decide_eq_false ?_; first | assumption | omega) | (refine nf ?_; first | assumption | omega) | (simp [*]; done))) | refine AW_seq ?_ | refine AW_ret ?_ | refine ret_done ?_ | refine norm_then ?_ | refine AW_block ?_ | refine ret_block ?_)
      refine outs_b ?_
      simp [*]
  rw [decide_eq_false (isClu_no (g := g) (a := a) (b := b) (show ¬ (0 ≤ k ∧ k ≤ 5) by omega))]
  repeat (first | (refine step_ops ?_; (first | (refine m_mov (by conv => lhs; whnf) ?_) | (refine m_eql rfl rfl ?_) | (apply m_ld_pt; (· rfl); (· rfl); (· rfl)) | (refine m_fa rfl ?_))) | refine end_ops ?_ | refine seq_ops ?_ | refine AW_ops ?_ | (refine cond_f rfl ?_ ?_; (· first | rfl | assumption | (refine decide_eq_false ?_; first | assumption | omega) | (refine nf ?_; first | assumption | omega) | (simp [*]; done))) | refine AW_seq ?_ | refine AW_ret ?_ | refine ret_done ?_ | refine norm_then ?_ | refine AW_block ?_ | refine ret_block ?_)
  exact outs_b rfl
end Go.Proofs.Ytpohldecllkjbaa
namespace Go.Am
/-- The least number that the first k lengths divide. -/
def lcT (K : List Int) : Nat → Nat
  | 0 => 1
  | k + 1 => lcT K k / Nat.gcd (lcT K k) (K.getD k 0).toNat * (K.getD k 0).toNat
theorem lcT_bd {K : List Int} (h : ∀ x ∈ K, 1 ≤ x ∧ x ≤ 12) : ∀ k, k ≤ K.length → 1 ≤ lcT K k ∧ lcT K k ≤ 12 ^ k
  | 0, _ => by simp [lcT]
  | k + 1, hk => by
    obtain ⟨h1, h2⟩ := lcT_bd h k (by omega)
    have hx := h (K.getD k 0) (by rw [List.getD_eq_getElem?_getD, List.getElem?_eq_getElem (show k < K.length by omega)]; exact List.getElem_mem _)
    obtain ⟨n, hn⟩ := Int.eq_ofNat_of_zero_le (show 0 ≤ K.getD k 0 by omega)
    rw [lcT, hn, Int.toNat_natCast]
    have hd : 0 < lcT K k / Nat.gcd (lcT K k) n := Nat.div_pos (Nat.le_of_dvd (by omega) (Nat.gcd_dvd_left ..)) (Nat.gcd_pos_of_pos_left _ (by omega))
    refine ⟨Nat.mul_pos hd (by omega), ?_⟩
    rw [Nat.pow_succ]
    exact Nat.mul_le_mul (Nat.le_trans (Nat.div_le_self ..) h2) (by omega)
end Go.Am
namespace Go.Proofs.Ytpohldecllkjbaa
open Go.Am
attribute [local irreducible] AW Outs Weak Lends Lend Sp aops atree aop1 Then Round InBlock Done
theorem timesOf_spec (K : List Int) (h12 : K.length ≤ 12) (h : ∀ x ∈ K, 1 ≤ x ∧ x ≤ 12) : Sp Try.prog 100 [ints K] (.i (lcT K K.length : Nat)) := by
  refine spec_of Try.func100 rfl cc100 rfl ?_
  unfold ac100
  repeat (first | (refine step_ops ?_; (first | (refine m_mov (by conv => lhs; whnf) ?_) | (refine m_len_ro rfl ?_))) | refine end_ops ?_ | refine seq_ops ?_ | refine AW_seq ?_ | refine AW_block ?_)
  refine AW_loop (α := Nat) (fun k => k ≤ K.length) (fun k => st [(3, .i (lcT K k : Nat)), (6, ints K), (7, .i K.length), (8, .i k)] []) (fun k => K.length - k) 0 (by omega) (weak_st ?_ ?_ rfl rfl) ?_
  · (repeat' (first | exact trivial | refine And.intro ?_ ?_)) <;> (first | rfl | skip)
  · trivial
  intro k hk
  have hp : ∀ j, j ≤ 12 → 12 ^ j ≤ 8916100448256 := fun j hj => Nat.le_trans (Nat.pow_le_pow_right (by decide) hj) (by decide)
  have hb := lcT_bd h k hk
  have hb0 := hp k (by omega)
  by_cases hc : k < K.length
  · have hx := h _ (getD_mem hc)
    have hb1 := lcT_bd h (k + 1) hc
    have hb2 := hp (k + 1) (by omega)
    obtain ⟨B, hB⟩ := Int.eq_ofNat_of_zero_le (show 0 ≤ K.getD k 0 by omega)
    have hs : lcT K (k + 1) = lcT K k / Nat.gcd (lcT K k) (K.getD k 0).toNat * (K.getD k 0).toNat := rfl
    rw [hB, Int.toNat_natCast] at hs
    rw [hB] at hx
    rw [hs] at hb1
    generalize lcT K k = A at *
    have hg0 : 0 < Nat.gcd A B := Nat.gcd_pos_of_pos_left _ (by omega)
    have hdiv : (A : Int) / ((Nat.gcd A B : Nat) : Int) = ((A / Nat.gcd A B : Nat) : Int) := rfl
    have hmul : ((A / Nat.gcd A B : Nat) : Int) * (B : Int) = ((A / Nat.gcd A B * B : Nat) : Int) := by rw [Int.natCast_mul]
    repeat (first | (refine step_ops ?_; (first | (refine m_mov (by conv => lhs; whnf) ?_) | (refine m_lss rfl rfl ?_) | (refine m_idx1_ro rfl rfl ?_ ?_; (· omega)) | (refine m_ld_rpi rfl ?_ ?_; (· omega)))) | refine end_ops ?_ | refine seq_ops ?_ | refine AW_ops ?_ | (refine cond_t rfl ?_ ?_; (· first | rfl | assumption | (refine decide_eq_true ?_; first | assumption | omega) | (refine nt ?_; first | assumption | omega) | (simp [*]; done))) | refine skip_then ?_ | refine AW_seq ?_ | refine AW_block ?_)
    rw [hB]
    skip
    (refine step_ops ?_); (apply m_call (commonDivisor_spec A B)); (· repeat (first | exact lends_nil | (refine lends_cons ?_ ?_; (· exact lend_v))))
    repeat (refine step_ops ?_; (first | (refine m_mov (by conv => lhs; whnf) ?_) | (refine m_quo rfl rfl ?_ ?_ ?_ ?_; (· omega); (· omega); (· omega))))
    rw [hdiv]
    refine step_ops ?_
    refine m_mul rfl rfl (by rw [hmul]; omega) (by rw [hmul]; omega) ?_
    rw [hmul]
    repeat (first | (refine step_ops ?_; (first | (refine m_mov (by conv => lhs; whnf) ?_) | (refine m_add rfl rfl ?_ ?_ ?_; (· omega); (· omega)))) | refine end_ops ?_ | refine AW_ops ?_ | refine norm_then ?_ | refine norm_block ?_)
    refine next_round (k + 1) (by omega) (weak_st ?_ ?_ rfl rfl) ?_
    · rw [hs]
      (repeat' (first | exact trivial | refine And.intro ?_ ?_)) <;> (first | rfl | skip)
    · trivial
    · omega
  · obtain rfl : k = K.length := by omega
    repeat (first | (refine step_ops ?_; (first | (refine m_mov (by conv => lhs; whnf) ?_) | (refine m_lss rfl rfl ?_))) | refine end_ops ?_ | refine seq_ops ?_ | (refine cond_f rfl ?_ ?_; (· first | rfl | assumption | (refine decide_eq_false ?_; first | assumption | omega) | (refine nf ?_; first | assumption | omega) | (simp [*]; done))) | refine AW_seq ?_ | refine AW_ret ?_ | refine ret_done ?_ | refine norm_then ?_ | refine exit_then ?_ | refine exit_round ?_ | refine AW_exit ?_ | refine exit_block ?_)
    exact outs_i rfl
end Go.Proofs.Ytpohldecllkjbaa
namespace Go.Proofs.Ytpohldecllkjbaa
open Go.Am
attribute [local irreducible] AW Outs Weak Lends Lend Sp aops atree aop1 Then Round InBlock Done
attribute [local irreducible] SpM DoneM SpH DoneH
theorem lcT_pers (B : List Nat) : ∀ k, k ≤ B.length → lcT (B.map fun (p : Nat) => (p : Int)) k = lcF (B.take k) 1
  | 0, _ => rfl
  | k + 1, hk => by
    have e : (B.map fun (p : Nat) => (p : Int)).getD k 0 = ((B[k] : Nat) : Int) := by rw [List.getD_eq_getElem?_getD, List.getElem?_map, List.getElem?_eq_getElem (by omega)]; rfl
    rw [lcT, lcT_pers B k (by omega), List.take_add_one, List.getElem?_eq_getElem (by omega), e, Int.toNat_natCast]
    exact (lcF_snoc _ _ _).symm
end Go.Proofs.Ytpohldecllkjbaa
namespace Go.Proofs.Ytpohldecllkjbaa
open Go.Am
attribute [local irreducible] AW Outs Weak Lends Lend Sp aops atree aop1 Then Round InBlock Done
/-- Where a coat is, or -1. -/
def whoIs (L : List Int) (c : Int) : Int := if c ∈ L then (L.idxOf c : Int) else -1
theorem whoIs_at {L : List Int} {c : Int} {k : Nat} (h : k < L.length) (he : c ∉ L.take k) (hx : L.getD k 0 = c) : whoIs L c = k := by
  have hm : c ∈ L := hx ▸ getD_mem h
  have h1 : L.idxOf c = k := by
    conv => lhs; rw [← List.take_append_drop k L]
    rw [List.idxOf_append, if_neg he, List.drop_eq_getElem_cons h]
    have : L[k] = c := by simpa [h] using hx
    rw [this, List.idxOf_cons_self, List.length_take]
    omega
  rw [whoIs, if_pos hm, h1]
theorem slicesIndex_spec (L : List Int) (c : Int) (hL : L.length ≤ 1048576) : Sp Try.prog 68 [ints L, .i c] (.i (whoIs L c)) := by
  refine spec_of Try.func68 rfl cc68 rfl ?_
  unfold ac68
  repeat (first | (refine step_ops ?_; (first | (refine m_mov (by conv => lhs; whnf) ?_) | (refine m_lss rfl rfl ?_) | (refine m_eql rfl rfl ?_) | (refine m_eqk rfl rfl ?_) | (refine m_eqs rfl rfl ?_) | (refine m_add rfl rfl ?_ ?_ ?_; (· omega); (· omega)) | (refine m_adds rfl rfl ?_ ?_; (· first | omega | (simp; omega))) | (refine m_len_ro rfl ?_) | (refine m_len_sl rfl ?_) | (refine m_len_nil rfl ?_) | (refine m_idx1_ro rfl rfl ?_ ?_; (· omega)) | (refine m_idx1_sl rfl rfl ?_ ?_; (· omega)) | (apply m_idx1_slj; (· rfl); (· rfl); (· assumption); (· omega)) | (apply m_idx1_roj; (· rfl); (· rfl); (· assumption); (· omega)) | (refine m_idx_ro rfl rfl ?_ ?_ ?_; (· omega); (· omega)) | (refine m_idx_sl rfl rfl ?_ ?_ ?_; (· omega); (· omega)) | (refine m_ld_rpi rfl ?_ ?_; (· omega)) | (refine m_ld_pti rfl (by rfl) ?_ ?_; (· first | omega | (simp; omega))) | (apply m_ld_ptb; (· rfl); (· rfl); (· assumption)) | (apply m_ld_rp; (· rfl); (· rfl)) | (apply m_ld_pt; (· rfl); (· rfl); (· rfl)))) | refine end_ops ?_ | refine seq_ops ?_ | refine AW_ops ?_ | (refine cond_t rfl ?_ ?_; (· first | rfl | assumption | (refine decide_eq_true ?_; first | assumption | omega) | (refine nt ?_; first | assumption | omega) | (simp [*]; done))) | (refine cond_f rfl ?_ ?_; (· first | rfl | assumption | (refine decide_eq_false ?_; first | assumption | omega) | (refine nf ?_; first | assumption | omega) | (simp [*]; done))) | refine skip_then ?_ | refine AW_seq ?_ | refine AW_ret ?_ | refine ret_done ?_ | refine norm_then ?_ | refine ret_then ?_ | refine exit_then ?_ | refine AW_block ?_ | refine norm_block ?_ | refine ret_block ?_ | refine ret_round ?_ | refine exit_round ?_ | refine AW_exit ?_ | refine exit_block ?_ | (refine exit_other ?_ ?_; (· decide)) | refine AW_skip ?_)
  refine AW_loop (α := Nat) (fun k => k ≤ L.length ∧ c ∉ L.take k) (fun k => st [(0, ints L), (1, .i c), (7, .i L.length), (8, .i k)] []) (fun k => L.length - k) 0 (by simp) (weak_st ?_ ?_ rfl rfl) ?_
  · (repeat' (first | exact trivial | refine And.intro ?_ ?_)) <;> (first | rfl | skip)
  · trivial
  rintro k ⟨hk, he⟩
  by_cases h : k < L.length
  · by_cases hx : c = L.getD k 0
    · repeat (first | (refine step_ops ?_; (first | (refine m_mov (by conv => lhs; whnf) ?_) | (refine m_lss rfl rfl ?_) | (refine m_eql rfl rfl ?_) | (refine m_eqk rfl rfl ?_) | (refine m_eqs rfl rfl ?_) | (refine m_add rfl rfl ?_ ?_ ?_; (· omega); (· omega)) | (refine m_adds rfl rfl ?_ ?_; (· first | omega | (simp; omega))) | (refine m_len_ro rfl ?_) | (refine m_len_sl rfl ?_) | (refine m_len_nil rfl ?_) | (refine m_idx1_ro rfl rfl ?_ ?_; (· omega)) | (refine m_idx1_sl rfl rfl ?_ ?_; (· omega)) | (apply m_idx1_slj; (· rfl); (· rfl); (· assumption); (· omega)) | (apply m_idx1_roj; (· rfl); (· rfl); (· assumption); (· omega)) | (refine m_idx_ro rfl rfl ?_ ?_ ?_; (· omega); (· omega)) | (refine m_idx_sl rfl rfl ?_ ?_ ?_; (· omega); (· omega)) | (refine m_ld_rpi rfl ?_ ?_; (· omega)) | (refine m_ld_pti rfl (by rfl) ?_ ?_; (· first | omega | (simp; omega))) | (apply m_ld_ptb; (· rfl); (· rfl); (· assumption)) | (apply m_ld_rp; (· rfl); (· rfl)) | (apply m_ld_pt; (· rfl); (· rfl); (· rfl)))) | refine end_ops ?_ | refine seq_ops ?_ | refine AW_ops ?_ | (refine cond_t rfl ?_ ?_; (· first | rfl | assumption | (refine decide_eq_true ?_; first | assumption | omega) | (refine nt ?_; first | assumption | omega) | (simp [*]; done))) | (refine cond_f rfl ?_ ?_; (· first | rfl | assumption | (refine decide_eq_false ?_; first | assumption | omega) | (refine nf ?_; first | assumption | omega) | (simp [*]; done))) | refine skip_then ?_ | refine AW_seq ?_ | refine AW_ret ?_ | refine ret_done ?_ | refine norm_then ?_ | refine ret_then ?_ | refine exit_then ?_ | refine AW_block ?_ | refine norm_block ?_ | refine ret_block ?_ | refine ret_round ?_ | refine exit_round ?_ | refine AW_exit ?_ | refine exit_block ?_ | (refine exit_other ?_ ?_; (· decide)) | refine AW_skip ?_)
      exact outs_i (whoIs_at h he hx.symm).symm
    · repeat (first | (refine step_ops ?_; (first | (refine m_mov (by conv => lhs; whnf) ?_) | (refine m_lss rfl rfl ?_) | (refine m_eql rfl rfl ?_) | (refine m_eqk rfl rfl ?_) | (refine m_eqs rfl rfl ?_) | (refine m_add rfl rfl ?_ ?_ ?_; (· omega); (· omega)) | (refine m_adds rfl rfl ?_ ?_; (· first | omega | (simp; omega))) | (refine m_len_ro rfl ?_) | (refine m_len_sl rfl ?_) | (refine m_len_nil rfl ?_) | (refine m_idx1_ro rfl rfl ?_ ?_; (· omega)) | (refine m_idx1_sl rfl rfl ?_ ?_; (· omega)) | (apply m_idx1_slj; (· rfl); (· rfl); (· assumption); (· omega)) | (apply m_idx1_roj; (· rfl); (· rfl); (· assumption); (· omega)) | (refine m_idx_ro rfl rfl ?_ ?_ ?_; (· omega); (· omega)) | (refine m_idx_sl rfl rfl ?_ ?_ ?_; (· omega); (· omega)) | (refine m_ld_rpi rfl ?_ ?_; (· omega)) | (refine m_ld_pti rfl (by rfl) ?_ ?_; (· first | omega | (simp; omega))) | (apply m_ld_ptb; (· rfl); (· rfl); (· assumption)) | (apply m_ld_rp; (· rfl); (· rfl)) | (apply m_ld_pt; (· rfl); (· rfl); (· rfl)))) | refine end_ops ?_ | refine seq_ops ?_ | refine AW_ops ?_ | (refine cond_t rfl ?_ ?_; (· first | rfl | assumption | (refine decide_eq_true ?_; first | assumption | omega) | (refine nt ?_; first | assumption | omega) | (simp [*]; done))) | (refine cond_f rfl ?_ ?_; (· first | rfl | assumption | (refine decide_eq_false ?_; first | assumption | omega) | (refine nf ?_; first | assumption | omega) | (simp [*]; done))) | refine skip_then ?_ | refine AW_seq ?_ | refine AW_ret ?_ | refine ret_done ?_ | refine norm_then ?_ | refine ret_then ?_ | refine exit_then ?_ | refine AW_block ?_ | refine norm_block ?_ | refine ret_block ?_ | refine ret_round ?_ | refine exit_round ?_ | refine AW_exit ?_ | refine exit_block ?_ | (refine exit_other ?_ ?_; (· decide)) | refine AW_skip ?_)
      refine next_round (k + 1) ⟨by omega, ?_⟩ (weak_st ?_ ?_ rfl rfl) ?_
      · rw [take_snoc L k 0 h, List.mem_append, List.mem_singleton]
        rintro (h1 | h1)
        · exact he h1
        · exact hx h1
      · (repeat' (first | exact trivial | refine And.intro ?_ ?_)) <;> (first | rfl | skip)
      · trivial
      · omega
  · repeat (first | (refine step_ops ?_; (first | (refine m_mov (by conv => lhs; whnf) ?_) | (refine m_lss rfl rfl ?_) | (refine m_eql rfl rfl ?_) | (refine m_eqk rfl rfl ?_) | (refine m_eqs rfl rfl ?_) | (refine m_add rfl rfl ?_ ?_ ?_; (· omega); (· omega)) | (refine m_adds rfl rfl ?_ ?_; (· first | omega | (simp; omega))) | (refine m_len_ro rfl ?_) | (refine m_len_sl rfl ?_) | (refine m_len_nil rfl ?_) | (refine m_idx1_ro rfl rfl ?_ ?_; (· omega)) | (refine m_idx1_sl rfl rfl ?_ ?_; (· omega)) | (apply m_idx1_slj; (· rfl); (· rfl); (· assumption); (· omega)) | (apply m_idx1_roj; (· rfl); (· rfl); (· assumption); (· omega)) | (refine m_idx_ro rfl rfl ?_ ?_ ?_; (· omega); (· omega)) | (refine m_idx_sl rfl rfl ?_ ?_ ?_; (· omega); (· omega)) | (refine m_ld_rpi rfl ?_ ?_; (· omega)) | (refine m_ld_pti rfl (by rfl) ?_ ?_; (· first | omega | (simp; omega))) | (apply m_ld_ptb; (· rfl); (· rfl); (· assumption)) | (apply m_ld_rp; (· rfl); (· rfl)) | (apply m_ld_pt; (· rfl); (· rfl); (· rfl)))) | refine end_ops ?_ | refine seq_ops ?_ | refine AW_ops ?_ | (refine cond_t rfl ?_ ?_; (· first | rfl | assumption | (refine decide_eq_true ?_; first | assumption | omega) | (refine nt ?_; first | assumption | omega) | (simp [*]; done))) | (refine cond_f rfl ?_ ?_; (· first | rfl | assumption | (refine decide_eq_false ?_; first | assumption | omega) | (refine nf ?_; first | assumption | omega) | (simp [*]; done))) | refine skip_then ?_ | refine AW_seq ?_ | refine AW_ret ?_ | refine ret_done ?_ | refine norm_then ?_ | refine ret_then ?_ | refine exit_then ?_ | refine AW_block ?_ | refine norm_block ?_ | refine ret_block ?_ | refine ret_round ?_ | refine exit_round ?_ | refine AW_exit ?_ | refine exit_block ?_ | (refine exit_other ?_ ?_; (· decide)) | refine AW_skip ?_)
    refine outs_i ?_
    rw [List.take_of_length_le (by omega)] at he
    rw [whoIs, if_neg he]
end Go.Proofs.Ytpohldecllkjbaa
namespace Go.Am
/-- Does the guest behind those of a list choose a seat? -/
def chsE (l : Int) (M : List Int) : Bool := decide ((M.length : Int) < l) || decide ((M.length : Int) ∈ M)
/-- Can the first k guests of a seating come so? -/
def comeK (l : Int) (L : List Int) (k : Nat) : Prop := ∀ j < k, chsE l (L.take j) = true ∨ L.getD j 0 = (j : Int)
instance (l : Int) (L : List Int) (k : Nat) : Decidable (comeK l L k) := inferInstanceAs (Decidable (∀ j < k, _))
/-- The displaced ones of the first k guests. -/
def disp (L : List Int) (k : Nat) : List Int := ((List.range k).filter fun (i : Nat) => decide (L.getD i 0 ≠ i)).map fun (i : Nat) => (i : Int)
theorem disp_yes {L : List Int} {k : Nat} (h : L.getD k 0 ≠ k) : disp L (k + 1) = disp L k ++ [(k : Int)] := by
  unfold disp; rw [List.range_succ, List.filter_append, List.map_append, List.filter_cons_of_pos (p := fun (i : Nat) => decide (L.getD i 0 ≠ (i : Int))) (a := k) (decide_eq_true h)]; rfl
theorem disp_no {L : List Int} {k : Nat} (h : L.getD k 0 = k) : disp L (k + 1) = disp L k := by
  unfold disp; rw [List.range_succ, List.filter_append, List.map_append, List.filter_cons_of_neg (p := fun (i : Nat) => decide (L.getD i 0 ≠ (i : Int))) (a := k) (fun e => (of_decide_eq_true e) h)]; simp
theorem disp_le (L : List Int) (k : Nat) : (disp L k).length ≤ k := by
  unfold disp; rw [List.length_map]; exact Nat.le_trans (List.length_filter_le ..) (by simp)
end Go.Am
namespace Go.Proofs.Ytpohldecllkjbaa
open Go.Am
attribute [local irreducible] AW Outs Weak Lends Lend Sp aops atree aop1 Then Round InBlock Done
theorem displacedIn_spec (L : List Int) (hL : L.length ≤ 1048576) : Sp Try.prog 98 [ints L] (newInts (disp L L.length)) := by
  refine spec_of Try.func98 rfl cc98 rfl ?_
  unfold ac98
  repeat (first | (refine step_ops ?_; (first | (refine m_mov (by conv => lhs; whnf) ?_) | (refine m_len_ro rfl ?_) | (refine m_nils ?_))) | refine end_ops ?_ | refine seq_ops ?_ | refine AW_seq ?_ | refine AW_block ?_)
  refine AW_loop (α := Nat × Nat) (fun a => a.1 ≤ L.length ∧ (a.2 = 3 ∨ a.2 = 19)) (fun a => st [(6, ints L), (7, .i L.length), (8, .i a.1), (3, .sl a.2 1 0 (disp L a.1).length)] [(a.2, (true, (disp L a.1).map AV.i))]) (fun a => L.length - a.1) (0, 3) (by simp) (weak_st ?_ ?_ rfl rfl) ?_
  · (repeat' (first | exact trivial | refine And.intro ?_ ?_)) <;> (first | rfl | skip)
  · exact ⟨rfl, trivial⟩
  rintro ⟨k, r⟩ ⟨hk, hr⟩
  have hn := disp_le L k
  simp only at hk hr
  rcases hr with rfl | rfl
  all_goals
    dsimp only
    by_cases h : k < L.length
    · by_cases hx : L.getD k 0 = k
      · repeat (first | (refine step_ops ?_; (first | (refine m_mov (by conv => lhs; whnf) ?_) | (refine m_lss rfl rfl ?_) | (refine m_neq rfl rfl ?_) | (refine m_add rfl rfl ?_ ?_ ?_; (· omega); (· omega)) | (refine m_idx1_ro rfl rfl ?_ ?_; (· omega)) | (refine m_ld_rpi rfl ?_ ?_; (· omega)))) | refine end_ops ?_ | refine seq_ops ?_ | refine AW_ops ?_ | (refine cond_t rfl ?_ ?_; (· first | rfl | assumption | (refine decide_eq_true ?_; first | assumption | omega) | (refine nt ?_; first | assumption | omega) | (simp [*]; done))) | (refine cond_f rfl ?_ ?_; (· first | rfl | assumption | (refine decide_eq_false ?_; first | assumption | omega) | (refine nf ?_; first | assumption | omega) | (simp [*]; done))) | refine skip_then ?_ | refine AW_seq ?_ | refine norm_then ?_ | refine AW_block ?_ | refine norm_block ?_ | refine AW_skip ?_)
        first
        | (refine next_round (k + 1, 3) ⟨by omega, .inl rfl⟩ (weak_st ?_ ?_ rfl rfl) ?_
           · exact ⟨rfl, rfl, rfl, by show _ = AV.sl 3 1 0 (disp L (k + 1)).length; rw [disp_no hx]; rfl, trivial⟩
           · exact ⟨by show _ = some (true, (disp L (k + 1)).map AV.i); rw [disp_no hx]; rfl, trivial⟩
           · omega)
        | (refine next_round (k + 1, 19) ⟨by omega, .inr rfl⟩ (weak_st ?_ ?_ rfl rfl) ?_
           · exact ⟨rfl, rfl, rfl, by show _ = AV.sl 19 1 0 (disp L (k + 1)).length; rw [disp_no hx]; rfl, trivial⟩
           · exact ⟨by show _ = some (true, (disp L (k + 1)).map AV.i); rw [disp_no hx]; rfl, trivial⟩
           · omega)
      · repeat (first | (refine step_ops ?_; (first | (refine m_mov (by conv => lhs; whnf) ?_) | (refine m_lss rfl rfl ?_) | (refine m_neq rfl rfl ?_) | (refine m_add rfl rfl ?_ ?_ ?_; (· omega); (· omega)) | (refine m_idx1_ro rfl rfl ?_ ?_; (· omega)) | (refine m_ld_rpi rfl ?_ ?_; (· omega)) | (refine m_bsl1 rfl rfl ?_) | (refine m_app1i rfl (by decide) (by rfl) (by first | rfl | omega | (simp; done)) rfl rfl ?_ (by decide) ?_; (· first | omega | (simp; omega))))) | refine end_ops ?_ | refine seq_ops ?_ | refine AW_ops ?_ | (refine cond_t rfl ?_ ?_; (· first | rfl | assumption | (refine decide_eq_true ?_; first | assumption | omega) | (refine nt ?_; first | assumption | omega) | (simp [*]; done))) | refine skip_then ?_ | refine AW_seq ?_ | refine norm_then ?_ | refine AW_block ?_ | refine norm_block ?_)
        refine next_round (k + 1, 19) ⟨by omega, .inr rfl⟩ (weak_st ?_ ?_ rfl rfl) ?_
        · refine ⟨rfl, rfl, rfl, ?_, trivial⟩
          show AV.sl 19 1 0 (disp L k ++ [(k : Int)]).length = AV.sl 19 1 0 (disp L (k + 1)).length
          rw [disp_yes hx]
        · refine ⟨?_, trivial⟩
          show some (true, (disp L k ++ [(k : Int)]).map AV.i) = some (true, (disp L (k + 1)).map AV.i)
          rw [disp_yes hx]
        · omega
    · repeat (first | (refine step_ops ?_; (first | (refine m_mov (by conv => lhs; whnf) ?_) | (refine m_lss rfl rfl ?_))) | refine end_ops ?_ | refine seq_ops ?_ | (refine cond_f rfl ?_ ?_; (· first | rfl | assumption | (refine decide_eq_false ?_; first | assumption | omega) | (refine nf ?_; first | assumption | omega) | (simp [*]; done))) | refine AW_seq ?_ | refine AW_ret ?_ | refine ret_done ?_ | refine norm_then ?_ | refine exit_then ?_ | refine exit_round ?_ | refine AW_exit ?_ | refine exit_block ?_)
      obtain rfl : k = L.length := by omega
      exact outs_ints rfl rfl rfl
end Go.Proofs.Ytpohldecllkjbaa
namespace Go.Am
variable {P : Program} {N : Nat} {s : AS} {Q : Exit → AS → Prop} {w0 : World} {mu : Nat → Option Nat}
/-- A panic that nobody has recovered. -/
abbrev pan (v : Value) : Exit := .panic [{ v, recovered := false }]
/-- THE CONTRACT OF A FUNCTION THAT PANICS: with a value of which 'ok' tells; nothing that was there has changed. -/
def SpP (P : Program) (f : FuncId) (asx : List AV) (ok : Value → Prop) : Prop :=
  ∀ w vs, GoodW w → Entry w asx vs.toList → Calls P f vs w fun e w' => ∃ v, e = .panicked [{ v, recovered := false }] ∧ ok v ∧ More w w'
/-- The operation is a call that panics. -/
def APan (P : Program) (o : AOper) (s : AS) (ok : Value → Prop) : Prop :=
  o.g = none ∧ ((∃ f args asx, o.op = .call f args ∧ SpP P f asx ok ∧ Lends s.hp (args.map s.ev) asx) ∨
    ∃ x args f l k asx, o.op = .callv x args ∧ s.ev x = .fn f l k ∧ Callable P f ∧ SpP P f asx ok ∧ Lends s.hp (l.take k ++ args.map s.ev ++ l.drop k) asx)
theorem copCall_call {c : Call} {f : FuncId} {args : List Opd} (h : copCall P c = some (.call f args)) :
    c.callee = .value (.func f) ∧ args = c.args.toList.map opd ∧ ∃ fn, P.funcs[f]? = some fn ∧ (fn.name == "runtime.NumGoroutine") = false ∧ fn.body.isNone = false := by
  obtain ⟨callee, xs, tys⟩ := c
  unfold copCall at h
  simp only at h
  repeat' (first | (cases h; done) | split at h | (refine Exists.elim h (fun _ h2 => And.elim (fun _ h => ?_) h2)) | (simp only [Option.bind_eq_some_iff] at h))
  rename_i fn hn hfn
  cases h
  rw [Bool.not_eq_true, Bool.or_eq_false_iff] at hfn
  exact ⟨rfl, rfl, fn, hn, hfn.1, hfn.2⟩
theorem copCall_callv {c : Call} {x : Opd} {args : List Opd} (h : copCall P c = some (.callv x args)) :
    ∃ cx, c.callee = .value cx ∧ x = opd cx ∧ args = c.args.toList.map opd := by
  obtain ⟨callee, xs, tys⟩ := c
  unfold copCall at h
  simp only at h
  repeat' (first | (cases h; done) | split at h | (refine Exists.elim h (fun _ h2 => And.elim (fun _ h => ?_) h2)) | (simp only [Option.bind_eq_some_iff] at h))
  all_goals (cases h; exact ⟨_, rfl, rfl, rfl⟩)
/-- Is the operation a call? -/
def AOp.isC : AOp → Bool
  | .call _ _ => true
  | .callv _ _ => true
  | _ => false
theorem copOp0_call {o : Oper} {op : AOp} (h : copOp0 P o = some op) (hop : op.isC = true) : ∃ c, o.op = .call c ∧ copCall P c = some op := by
  unfold copOp0 at h
  split at h
  all_goals first
    | exact ⟨_, ‹_›, h⟩
    | (exfalso
       repeat' (first | (cases h; done) | (cases h; cases hop; done) | split at h | (refine Exists.elim h (fun _ h2 => And.elim (fun _ h => ?_) h2)) | (simp only [Option.bind_eq_some_iff, Option.map_eq_some_iff] at h) | (subst h; cases hop; done)))
theorem op1_panic {ops : Array Oper} {i : Nat} {o : Oper} {ao : AOper} {ok : Value → Prop} {a : Act} {w : World} {R : Act → World → Prop} {Qx : Exit → Act → World → Prop} (hi : ops[i]? = some o) (hc : cop P N ops o = some ao) (hS : Simw w0 mu N s a w)
    (hp : APan P ao s ok) (hQ : ∀ v w', ok v → Simw w0 mu N s a w' → Qx (pan v) a w') : wpOp P ops Qx i R a w := by
  obtain ⟨hf, phi, ro, h⟩ := hS
  unfold cop at hc
  rw [Option.bind_eq_some_iff] at hc
  obtain ⟨op, hop, hc⟩ := hc
  split at hc
  rotate_left
  · cases hc
  obtain ⟨hg, hp⟩ := hp
  have hgd : o.guard = none ∧ ao = ⟨o.dst, op, none⟩ := by
    cases hgu : o.guard with
    | none => rw [hgu] at hc; cases hc; exact ⟨rfl, rfl⟩
    | some jw =>
      obtain ⟨j, wt⟩ := jw
      rw [hgu] at hc
      simp only at hc
      rw [Option.bind_eq_some_iff] at hc
      obtain ⟨t, _, hc⟩ := hc
      split at hc
      · cases hc; cases hg
      · cases hc
  obtain ⟨hgd, rfl⟩ := hgd
  simp only at hp
  have hisC : op.isC = true := by
    rcases hp with ⟨f, args, asx, h1, _⟩ | ⟨x, args, f, l, k, asx, h1, _⟩ <;> rw [h1] <;> rfl
  have h0 : copOp0 P o = some op := by
    unfold copOp at hop
    simp only [Option.some.injEq] at hop
    cases h0 : copOp0 P o with
    | some op' => rw [h0] at hop; simp only [Option.getD_some] at hop; rw [hop]
    | none => rw [h0] at hop; simp only [Option.getD_none] at hop; subst hop; cases hisC
  obtain ⟨c, ho, hcc⟩ := copOp0_call h0 hisC
  have key : o.wp P a w R Qx := by
    have fin : ∀ (f : FuncId) (vs : Array Value) (xs asx : List AV), (execOp a.eval o).run P w = .ok (.enter f vs) w → SimL xs (ctx w0 w ro phi s) vs.toList → vs.size = xs.length → SpP P f asx ok → Lends s.hp xs asx → o.wp P a w R Qx := by
      intro f vs xs asx hrun hsims hlen hspec hlend
      unfold Oper.wp
      rw [hrun]
      rw [Oper.upon_enter]
      have hent : Entry w asx vs.toList := hlend w0 mu N a.tmps w phi ro _ h.bare hsims (by simpa using hlen)
      refine (hspec w _ h.goodW hent).mono fun e w' hpost => ?_
      obtain ⟨v, rfl, hv, hm⟩ := hpost
      exact hQ v w' hv ⟨hf, phi, ro, h.more_same hm⟩
    obtain ⟨callee, args0, tys⟩ := c
    rcases hp with ⟨f, args, asx, h1, hspec, hlend⟩ | ⟨x, args, f, l, k, asx, h1, hev, hcb, hspec, hlend⟩
    · rw [h1] at hcc
      obtain ⟨k1, k2, fn, hfn, hname, hbody⟩ := copCall_call hcc
      simp only at k1 k2
      subst k1
      have hrun : (execOp a.eval o).run P w = .ok (.enter f (args0.map a.eval)) w := by
        have h1 : ¬ fn.name = "runtime.NumGoroutine" := by simpa using hname
        have h2 : ¬ fn.body = none := by intro e; rw [e] at hbody; cases hbody
        simp [execOp, ho, resolve, Act.eval, Deferred.ofValue, invoke, callFunc, hfn, h1, h2]
      refine fin f _ _ asx hrun ?_ ?_ hspec hlend
      · rw [k2, List.map_map, Array.toList_map]
        exact evs_sim h args0.toList
      · rw [k2]; simp
    · rw [h1] at hcc
      obtain ⟨cx, k1, k3, k2⟩ := copCall_callv hcc
      simp only at k1 k2
      subst k1
      obtain ⟨fn, hfn, hname, hbody⟩ := hcb
      have hcx : SimV (.fn f l k) (ctx w0 w ro phi s) (a.eval cx) := by
        have := h.ev cx
        rw [← k3, hev] at this
        exact this
      simp only [SimV] at hcx
      obtain ⟨pa, q, hcx, hpk, hq, hl⟩ := hcx
      have hrun : (execOp a.eval o).run P w = .ok (.enter f (pa ++ args0.map a.eval ++ q)) w := by
        have h1 : ¬ fn.name = "runtime.NumGoroutine" := by simpa using hname
        have h2 : ¬ fn.body = none := by intro e; rw [e] at hbody; cases hbody
        simp [execOp, ho, resolve, hcx, Deferred.ofValue, invoke, callFunc, hfn, h1, h2]
      have e2 : (pa.toList ++ q.toList).drop k = q.toList := by
        have hk : k = pa.toList.length := by simp [hpk]
        rw [hk, List.drop_left]
      have g1 := hl.take k
      have g2 := hl.drop k
      rw [e2] at g2
      have g1' : SimL (l.take k) (ctx w0 w ro phi s) pa.toList := by
        refine SimL.of_get fun i x hi => ?_
        obtain ⟨y, h1, h2⟩ := g1.get hi
        have hik : i < k := by
          rw [List.getElem?_take] at hi
          by_cases h : i < k
          · exact h
          · simp [h] at hi
        rw [List.getElem?_append_left (by simp; omega)] at h1
        exact ⟨y, h1, h2⟩
      have g3 : SimL ((args0.toList.map opd).map s.ev) (ctx w0 w ro phi s) (args0.map a.eval).toList := by
        rw [List.map_map, Array.toList_map]
        exact evs_sim h args0.toList
      rw [← k2] at g3
      refine fin f _ _ asx hrun ?_ ?_ hspec hlend
      · have : (pa ++ args0.map a.eval ++ q).toList = pa.toList ++ (args0.map a.eval).toList ++ q.toList := by simp
        rw [this]
        refine SimL.append (SimL.append g1' ?_ g3) ?_ g2
        all_goals simp [k2]
        all_goals omega
      · simp [k2]; omega
  unfold wpOp
  rw [hi]
  simp only [Region.wanted, hgd, if_true]
  exact .inl key
theorem aops_panic {ops : Array Oper} {Qx : Exit → Act → World → Prop} {ok : Value → Prop} (hQ : ∀ s' a w v, Simw w0 mu N s' a w → Q (pan v) s' → Qx (pan v) a w) : ∀ {is : List Nat} {l : List AOper}, Comp P N ops is l → ∀ (k : Nat) {s : AS} {a : Act} {w : World}, Simw w0 mu N s a w →
    aops P true (l.take k) s (fun s' => ∃ o, l[k]? = some o ∧ APan P o s' ok ∧ ∀ v, ok v → Q (pan v) s') → wpOps P ops Qx is a w := by
  intro is l hcomp
  induction hcomp with
  | nil =>
    intro k s a w hS h
    simp [aops] at h
  | cons hi hc _ ih =>
    intro k s a w hS h
    rw [wpOps_cons]
    cases k with
    | zero =>
      obtain ⟨o, h1, h2, h3⟩ := h
      simp only [List.getElem?_cons_zero, Option.some.injEq] at h1
      subst h1
      exact op1_panic hi hc hS h2 fun v w' hv hS' => hQ _ _ _ _ hS' (h3 v hv)
    | succ k =>
      rw [List.take_succ_cons] at h
      obtain ⟨s1, hwk, hR⟩ := h
      refine op1_ok hi hc (hwk _ _ _ _ _ hS) (fun a w hA => ?_) hR
      obtain ⟨s', h1, h2⟩ := hA
      exact ih k h2 (by simpa using h1)
/-- THE RULE OF A REGION WHOSE OPERATION k PANICS. -/
theorem AW_panic {l : List AOper} (k : Nat) {ok : Value → Prop} (h : aops P true (l.take k) s fun s' => ∃ o, l[k]? = some o ∧ APan P o s' ok ∧ ∀ v, ok v → Q (pan v) s') : AW P N (.ops l) s Q := by
  intro code hc w0 mu a w hS
  cases code <;> simp only [ccode] at hc
  case region id ops draw =>
    rw [Option.bind_eq_some_iff] at hc
    obtain ⟨l', hl, hc⟩ := hc
    split at hc
    · split at hc
      · generalize plan ops _ ops.size (Array.replicate ops.size false) = o at hc; cases o <;> cases hc
      · cases hc
    · rename_i hd
      cases hc
      have hd' : draw = false := by simpa using hd
      subst hd'
      refine wp_region ?_
      have hcomp := comp_of_mapM ops ops.toList 0 l (fun j => by simp) hl
      rw [Array.length_toList, ← List.range_eq_range'] at hcomp
      exact aops_panic (Q := Q) (fun s' a w v h1 h2 => ⟨s', h2, h1⟩) hcomp k hS h
  case seq => rw [Option.bind_eq_some_iff] at hc; obtain ⟨_, _, hc⟩ := hc; rw [Option.map_eq_some_iff] at hc; obtain ⟨_, _, hc⟩ := hc; cases hc
  case cond => rw [Option.bind_eq_some_iff] at hc; obtain ⟨_, _, hc⟩ := hc; rw [Option.map_eq_some_iff] at hc; obtain ⟨_, _, hc⟩ := hc; cases hc
  case block => rw [Option.map_eq_some_iff] at hc; obtain ⟨_, _, hc⟩ := hc; cases hc
  case scope => rw [Option.map_eq_some_iff] at hc; obtain ⟨_, _, hc⟩ := hc; cases hc
  case loop => rw [Option.map_eq_some_iff] at hc; obtain ⟨_, _, hc⟩ := hc; cases hc
  all_goals cases hc
/-- What a function owes that panics. -/
def DoneP (ok : Value → Prop) : Exit → AS → Prop := fun e _ => ∃ v, e = pan v ∧ ok v
/-- The rule on code asx it stands. -/
def CW (P : Program) (N : Nat) (code : Code) (s : AS) (Q : Exit → AS → Prop) : Prop :=
  ∀ w0 mu a w, Simw w0 mu N s a w → code.wp P (fun e a' w' => After w0 mu N (Q e) a' w') a w
theorem AW.toC {code : Code} {c : ACode} (h : AW P N c s Q) (hc : ccode P N code = some c) : CW P N code s Q := h code hc
theorem CW_seq {x y : Code} (h : CW P N x s (Then (fun s' => CW P N y s' Q) Q)) : CW P N (.seq x y) s Q := by
  intro w0 mu a w hS
  refine wp_seq (wp_mono (h w0 mu a w hS) fun e a' w' hA => ?_)
  obtain ⟨s', h1, h2⟩ := hA
  cases e with
  | normal => exact h1 w0 mu a' w' h2
  | _ => exact ⟨s', h1, h2⟩
theorem CW_cond {c : Operand} {x y : Code} {b : Bool} (hb : s.ev (opd c) = .v (.bool b)) (hx : b = true → CW P N x s Q) (hy : b = false → CW P N y s Q) : CW P N (.cond c x y) s Q := by
  intro w0 mu a w hS
  obtain ⟨hf, phi, ro, h⟩ := hS
  have hev := h.ev c
  rw [hb] at hev
  simp only [SimV] at hev
  cases b
  · exact wp_cond_false hev (hy rfl w0 mu a w ⟨hf, phi, ro, h⟩)
  · exact wp_cond_true hev (hx rfl w0 mu a w ⟨hf, phi, ro, h⟩)
theorem specPC_of {f : FuncId} {fn : Func} {code : Code} {asx : List AV} {ok : Value → Prop} (hf : P.funcs[f]? = some fn) (hb : fn.body = some code)
    (h : CW P (min fn.ntmps pbase) code (enter0 asx) (DoneP ok)) : SpP P f asx ok := by
  intro w vs hg hent
  refine calls_of_wp hf hb (wp_mono (h w (fun _ => none) _ w ⟨rfl, _, _, enter0_sim hg hent⟩) fun e a' w' hA => ?_)
  obtain ⟨s', ⟨v, rfl, hv⟩, hf', phi, ro, hS⟩ := hA
  exact ⟨hf', v, rfl, hv, hS.os, hS.tape, hS.output, hS.size, fun b hb => hS.kept b hb (fun r => by simp)⟩
theorem specP_of {f : FuncId} {fn : Func} {code : Code} {ac : ACode} {asx : List AV} {ok : Value → Prop} (hf : P.funcs[f]? = some fn) (hb : fn.body = some code) (hc : ccode P (min fn.ntmps pbase) code = some ac)
    (h : AW P (min fn.ntmps pbase) ac (enter0 asx) (DoneP ok)) : SpP P f asx ok := specPC_of hf hb (h.toC hc)
theorem agg_vals {vs : List Value} {C : Ctx} {y : Value} (h : SimV (.agg (vs.map AV.v)) C y) : y = .agg vs.toArray := by
  simp only [SimV] at h
  obtain ⟨a, rfl, _, h2⟩ := h
  have key : ∀ (l : List Value) (m : List Value), l.length = m.length → SimL (l.map AV.v) C m → m = l := by
    intro l
    induction l with
    | nil => intro m hl _; exact List.eq_nil_of_length_eq_zero hl.symm
    | cons x l ih =>
      intro m hl hs
      cases m with
      | nil => simp at hl
      | cons y m =>
        simp only [List.map_cons, SimL, SimV] at hs
        rw [hs.1, ih m (by simpa using hl) hs.2]
  have : a.toList = vs := key vs a.toList (by simp_all) h2
  rw [← this]
/-- The rule of a region that makes an interface value and panics with it. -/
theorem CW_throw {id : Nat} {o0 o1 o2 : Oper} {ao : AOper} {T : TypeId} {x t : Nat} {vs : List Value} (h0 : cop P N #[o0, o1, o2] o0 = some ao) (h1 : o1.op = .makeInterface T (.tmp x)) (h1d : o1.dst = some t) (h1g : o1.guard = none) (h2 : o2.op = .panic (.tmp t)) (h2g : o2.guard = none) (ht : t < N)
    (hT : ∃ fs, P.underlying T = some (.struct fs)) (hrun : aops P true [ao] s fun s' => s'.tm x = .agg (vs.map AV.v)) (hQ : ∀ s' : AS, Q (pan (.iface T (.agg vs.toArray))) s') : CW P N (.region id #[o0, o1, o2] false) s Q := by
  intro w0 mu a w hS
  obtain ⟨fs, hT⟩ := hT
  refine wp_region ?_
  show wpOps P _ _ [0, 1, 2] a w
  rw [wpOps_cons]
  obtain ⟨s0, hwk, hR⟩ := hrun
  refine op1_ok (ops := #[o0, o1, o2]) (i := 0) (K := fun s' => s'.tm x = .agg (vs.map AV.v)) rfl h0 (hwk _ _ _ _ _ hS) (fun a w hA => ?_) hR
  obtain ⟨s', hx, hf, phi, ro, hS⟩ := hA
  have hxv := hS.ev (.tmp x)
  rw [show s'.ev (opd (.tmp x)) = s'.tm x from rfl, hx] at hxv
  have hv := agg_vals hxv
  rw [wpOps_cons]
  unfold wpOp
  simp only [show (#[o0, o1, o2] : Array Oper)[1]? = some o1 from rfl, Region.wanted, h1g, if_true]
  refine .inl ?_
  unfold Oper.wp
  have r1 : (execOp a.eval o1).run P w = .ok (.value (.iface T (a.eval (.tmp x)))) w := by
    unfold execOp
    rw [h1]
    simp [Instr.makeInterface, go_sem, run_underlying hT]
  rw [r1, Oper.upon_value, h1d, hv]
  rw [wpOps_cons]
  unfold wpOp
  simp only [show (#[o0, o1, o2] : Array Oper)[2]? = some o2 from rfl, Region.wanted, h2g, if_true]
  refine .inl ?_
  unfold Oper.wp
  have hlt : t < a.tmps.size := Nat.lt_of_lt_of_le ht hS.slots
  have e1 : (a.put (some t) (.iface T (.agg vs.toArray))).eval (.tmp t) = .iface T (.agg vs.toArray) := by
    simp [Act.eval, Act.put, hlt]
  have r2 : (execOp (a.put (some t) (.iface T (.agg vs.toArray))).eval o2).run P w = .halt (.panic (.iface T (.agg vs.toArray))) w := by
    unfold execOp
    rw [h2]
    simp only [e1]
    rfl
  rw [r2, Oper.upon_panic]
  exact ⟨s'.put (some t) .any, hQ _, hf, phi, ro, hS.put (fun k hk => by cases hk; exact ht) (by simp [SimV])⟩
end Go.Am
namespace Go.Proofs.Ytpohldecllkjbaa
open Go.Am
attribute [local irreducible] AW Outs Weak Lends Lend Sp aops atree aop1 Then Round InBlock Done
attribute [local irreducible] SpM DoneM SpH DoneH SpP
/-- What clues of a kind tell. -/
def tolB (L : List Int) (k : Int) (g : Nat) : Int :=
  if k = 0 ∨ k = 1 then L.getD g 0
  else if k = 2 then (ownList L L.length).length
  else if k = 3 then (chs L).length
  else if k = 4 then (if L.getD g 0 > g then 1 else 0)
  else timesF L
theorem disp_own (L : List Int) : ∀ k, (disp L k).length + (ownList L k).length = k
  | 0 => rfl
  | k + 1 => by
    have ih := disp_own L k
    by_cases h : L.getD k 0 = k
    · rw [disp_no h, ownList_yes h, List.length_append, List.length_singleton]; omega
    · rw [disp_yes h, ownList_no h, List.length_append, List.length_singleton]; omega
theorem toldBy_spec (L : List Int) (k : Int) (g : Nat) (h : IsEx L) (hg : (k = 0 ∨ k = 1 ∨ k = 4) → g < L.length) : Sp Try.prog 89 [ints L, .i k, .i g] (.i (tolB L k g)) := by
  have hL : L.length ≤ 1048576 := by have := h.2.1; omega
  have hdi := displacedIn_spec L hL
  have hci := chainsIn_spec L h
  have hec := eachChainI_spec L h
  unfold tolB
  refine spec_of Try.func89 rfl cc89 rfl ?_
  unfold ac89
  by_cases h0 : k = 0
  · have hn := hg (.inl h0)
    rw [if_pos (.inl h0)]
    repeat (first | (refine step_ops ?_; (first | (refine m_mov (by conv => lhs; whnf) ?_) | (refine m_eql rfl rfl ?_) | (refine m_idx1_ro rfl rfl ?_ ?_; (· omega)) | (refine m_ld_rpi rfl ?_ ?_; (· omega)))) | refine end_ops ?_ | refine seq_ops ?_ | (refine cond_t rfl ?_ ?_; (· first | rfl | assumption | (refine decide_eq_true ?_; first | assumption | omega) | (refine nt ?_; first | assumption | omega) | (simp [*]; done))) | refine skip_then ?_ | refine AW_seq ?_ | refine AW_ret ?_ | refine ret_done ?_ | refine AW_block ?_ | refine ret_block ?_)
    exact outs_i rfl
  by_cases h1 : k = 1
  · have hn := hg (.inr (.inl h1))
    rw [if_pos (.inr h1)]
    repeat (first | (refine step_ops ?_; (first | (refine m_mov (by conv => lhs; whnf) ?_) | (refine m_eql rfl rfl ?_) | (refine m_idx1_ro rfl rfl ?_ ?_; (· omega)) | (refine m_ld_rpi rfl ?_ ?_; (· omega)))) | refine end_ops ?_ | refine seq_ops ?_ | refine AW_ops ?_ | (refine cond_t rfl ?_ ?_; (· first | rfl | assumption | (refine decide_eq_true ?_; first | assumption | omega) | (refine nt ?_; first | assumption | omega) | (simp [*]; done))) | (refine cond_f rfl ?_ ?_; (· first | rfl | assumption | (refine decide_eq_false ?_; first | assumption | omega) | (refine nf ?_; first | assumption | omega) | (simp [*]; done))) | refine AW_seq ?_ | refine AW_ret ?_ | refine ret_done ?_ | refine norm_then ?_ | refine AW_block ?_ | refine ret_block ?_)
    exact outs_i rfl
  rw [if_neg (by omega)]
  by_cases h2 : k = 2
  · rw [if_pos h2]
    have hd := disp_own L L.length
    generalize disp L L.length = D at *
    generalize ownList L L.length = O at *
    repeat (first | (refine step_ops ?_; (first | (refine m_mov (by conv => lhs; whnf) ?_) | (refine m_eql rfl rfl ?_) | (refine m_len_ro rfl ?_))) | refine end_ops ?_ | refine seq_ops ?_ | refine AW_ops ?_ | (refine cond_t rfl ?_ ?_; (· first | rfl | assumption | (refine decide_eq_true ?_; first | assumption | omega) | (refine nt ?_; first | assumption | omega) | (simp [*]; done))) | (refine cond_f rfl ?_ ?_; (· first | rfl | assumption | (refine decide_eq_false ?_; first | assumption | omega) | (refine nf ?_; first | assumption | omega) | (simp [*]; done))) | refine AW_seq ?_ | refine norm_then ?_ | refine AW_block ?_)
    (refine step_ops ?_); (apply m_call (hdi)); (· repeat (first | exact lends_nil | (refine lends_cons ?_ ?_; (· (refine lend_ints ?_; first | rfl | omega)))))
    repeat (first | (refine step_ops ?_; (first | (refine m_mov (by conv => lhs; whnf) ?_) | (refine m_sub rfl rfl ?_ ?_ ?_; (· omega); (· omega)) | (refine m_len_ro rfl ?_))) | refine end_ops ?_ | refine AW_ret ?_ | refine ret_done ?_ | refine ret_block ?_)
    refine outs_i ?_
    omega
  by_cases h3 : k = 3
  · rw [if_neg h2, if_pos h3]
    repeat (first | (refine step_ops ?_; (first | (refine m_mov (by conv => lhs; whnf) ?_) | (refine m_eql rfl rfl ?_))) | refine end_ops ?_ | refine seq_ops ?_ | refine AW_ops ?_ | (refine cond_t rfl ?_ ?_; (· first | rfl | assumption | (refine decide_eq_true ?_; first | assumption | omega) | (refine nt ?_; first | assumption | omega) | (simp [*]; done))) | (refine cond_f rfl ?_ ?_; (· first | rfl | assumption | (refine decide_eq_false ?_; first | assumption | omega) | (refine nf ?_; first | assumption | omega) | (simp [*]; done))) | refine AW_seq ?_ | refine norm_then ?_ | refine AW_block ?_)
    refine step_ops ?_
    refine m_call hci (lends_cons (lend_ints ?_) lends_nil) ?_
    · rfl
    repeat (first | (refine step_ops ?_; (first | (refine m_mov (by conv => lhs; whnf) ?_) | (refine m_len_ro rfl ?_))) | refine end_ops ?_ | refine AW_ret ?_ | refine ret_done ?_ | refine ret_block ?_)
    refine outs_i ?_
    unfold chs
    rw [chs_sts, List.length_map]
  by_cases h4 : k = 4
  · have hn := hg (.inr (.inr h4))
    rw [if_neg h2, if_neg h3, if_pos h4]
    by_cases hgt : L.getD g 0 > g
    · rw [if_pos hgt]
      repeat (first | (refine step_ops ?_; (first | (refine m_mov (by conv => lhs; whnf) ?_) | (refine m_gtr rfl rfl ?_) | (refine m_eql rfl rfl ?_) | (refine m_idx1_ro rfl rfl ?_ ?_; (· omega)) | (refine m_ld_rpi rfl ?_ ?_; (· omega)))) | refine end_ops ?_ | refine seq_ops ?_ | refine AW_ops ?_ | (refine cond_t rfl ?_ ?_; (· first | rfl | assumption | (refine decide_eq_true ?_; first | assumption | omega) | (refine nt ?_; first | assumption | omega) | (simp [*]; done))) | (refine cond_f rfl ?_ ?_; (· first | rfl | assumption | (refine decide_eq_false ?_; first | assumption | omega) | (refine nf ?_; first | assumption | omega) | (simp [*]; done))) | refine AW_seq ?_ | refine AW_ret ?_ | refine ret_done ?_ | refine norm_then ?_ | refine ret_then ?_ | refine AW_block ?_ | refine ret_block ?_)
      exact outs_i rfl
    · rw [if_neg hgt]
      repeat (first | (refine step_ops ?_; (first | (refine m_mov (by conv => lhs; whnf) ?_) | (refine m_gtr rfl rfl ?_) | (refine m_eql rfl rfl ?_) | (refine m_idx1_ro rfl rfl ?_ ?_; (· omega)) | (refine m_ld_rpi rfl ?_ ?_; (· omega)))) | refine end_ops ?_ | refine seq_ops ?_ | refine AW_ops ?_ | (refine cond_t rfl ?_ ?_; (· first | rfl | assumption | (refine decide_eq_true ?_; first | assumption | omega) | (refine nt ?_; first | assumption | omega) | (simp [*]; done))) | (refine cond_f rfl ?_ ?_; (· first | rfl | assumption | (refine decide_eq_false ?_; first | assumption | omega) | (refine nf ?_; first | assumption | omega) | (simp [*]; done))) | refine skip_then ?_ | refine AW_seq ?_ | refine AW_ret ?_ | refine ret_done ?_ | refine norm_then ?_ | refine AW_block ?_ | refine ret_block ?_)
      exact outs_i rfl
  rw [if_neg h2, if_neg h3, if_neg h4]
  have hpo := pers_ok h
  have hc := lcT_pers (pers L) _ (Nat.le_refl _)
  rw [List.take_length] at hc
  have ht := timesOf_spec ((pers L).map fun (p : Nat) => (p : Int)) (by rw [List.length_map]; exact hpo.1) (by
    intro x hx
    obtain ⟨p, hp, rfl⟩ := List.mem_map.1 hx
    have := hpo.2 p hp
    omega)
  rw [List.length_map, hc] at ht
  generalize ((pers L).map fun (p : Nat) => (p : Int)) = B at *
  repeat (first | (refine step_ops ?_; (first | (refine m_mov (by conv => lhs; whnf) ?_) | (refine m_eql rfl rfl ?_))) | refine end_ops ?_ | refine seq_ops ?_ | refine AW_ops ?_ | (refine cond_f rfl ?_ ?_; (· first | rfl | assumption | (refine decide_eq_false ?_; first | assumption | omega) | (refine nf ?_; first | assumption | omega) | (simp [*]; done))) | refine AW_seq ?_ | refine norm_then ?_ | refine AW_block ?_)
  (refine step_ops ?_); (apply m_call (hec)); (· repeat (first | exact lends_nil | (refine lends_cons ?_ ?_; (· (first | exact lend_v | (refine lend_ints ?_; first | rfl | omega))))))
  skip
  (refine step_ops ?_); (apply m_call (ht)); (· repeat (first | exact lends_nil | (refine lends_cons ?_ ?_; (· (refine lend_ints ?_; first | rfl | omega)))))
  repeat (first | (refine step_ops ?_; (refine m_mov (by conv => lhs; whnf) ?_)) | refine end_ops ?_ | refine AW_ret ?_ | refine ret_done ?_ | refine ret_block ?_)
  exact outs_i rfl
theorem isClu_nat {g k a b : Int} (h : IsClu g (k, a, b)) : 0 ≤ a := by
  unfold IsClu at h
  dsimp only at h
  split at h
  · exact h.1.1
  · split at h
    · exact h.1.1
    · split at h
      · omega
      · split at h
        · exact h.1.1
        · omega
theorem isClu_at {g k a b : Int} (h : IsClu g (k, a, b)) (hk : k = 0 ∨ k = 1 ∨ k = 4) : a < g := by
  rcases hk with hk | hk | hk
  · have := (isClu_01 (.inl hk)).1 h; omega
  · have := (isClu_01 (.inr hk)).1 h; omega
  · subst hk; have := isClu_4.1 h; omega
theorem fitC_tol {L : List Int} {k b : Int} {n : Nat} (h : IsClu L.length (k, n, b)) : fitC L (k, n, b) = if k = 0 ∨ k = 4 then decide (b = tolB L k n) else if k = 1 then decide (b ≠ tolB L k n) else decide ((n : Int) = tolB L k n) := by
  unfold fitC tolB
  dsimp only
  rw [Int.toNat_natCast]
  by_cases h0 : k = 0
  · simp [h0, eq_comm]
  by_cases h1 : k = 1
  · simp [h1, eq_comm]
  by_cases h2 : k = 2
  · simp [h2, eq_comm]
  by_cases h3 : k = 3
  · simp [h3, eq_comm]
  by_cases h4 : k = 4
  · subst h4
    have := isClu_4.1 h
    by_cases hg : L.getD n 0 > n
    · have : b = 0 ∨ b = 1 := by omega
      rcases this with rfl | rfl <;> simp_all
    · have : b = 0 ∨ b = 1 := by omega
      rcases this with rfl | rfl <;> simp_all
  simp [h0, h1, h2, h3, h4, eq_comm]
theorem fits_spec (L : List Int) (k a b : Int) (h : IsEx L) (hc : IsClu L.length (k, a, b)) : Sp Try.prog 73 [.agg [.i k, .i a, .i b], ints L] (.b (fitC L (k, a, b))) := by
  obtain ⟨n, rfl⟩ := Int.eq_ofNat_of_zero_le (isClu_nat hc)
  have hct := canTell_spec L.length k n b
  rw [decide_eq_true hc] at hct
  have hto := toldBy_spec L k n h fun hk => by have := isClu_at hc hk; omega
  rw [fitC_tol hc]
  generalize tolB L k n = T at *
  clear hc
  refine spec_of Try.func73 rfl cc73 rfl ?_
  unfold ac73
  refine seq_ops ?_
  refine step_ops ?_
  refine m_box (l := [.i k, .i n, .i b]) rfl rfl ?_
  by_cases h0 : k = 0
  · rw [if_pos (.inl h0)]
    repeat (first | (refine step_ops ?_; (first | (refine m_mov (by conv => lhs; whnf) ?_) | (refine m_len_ro rfl ?_) | (refine m_ldall rfl rfl ?_ ?_; (· first | rfl | (simp; done) | (simp [*]; done))))) | refine end_ops ?_ | refine seq_ops ?_ | refine AW_seq ?_)
    (refine step_ops ?_); (apply m_call (hct)); (· repeat (first | exact lends_nil | (refine lends_cons ?_ ?_; (· (first | exact lend_v | (refine lend_agg ?_; first | rfl | assumption | (simp [plainV]; done)))))))
    repeat (first | (refine step_ops ?_; (first | (refine m_mov (by conv => lhs; whnf) ?_) | (refine m_not rfl ?_) | (apply m_ld_pt; (· rfl); (· rfl); (· rfl)) | (refine m_fa rfl ?_))) | refine end_ops ?_ | refine seq_ops ?_ | (refine cond_f rfl ?_ ?_; (· first | rfl | assumption | (refine decide_eq_false ?_; first | assumption | omega) | (refine nf ?_; first | assumption | omega) | (simp [*]; done))) | refine skip_then ?_)
    (refine step_ops ?_); (apply m_call (hto)); (· repeat (first | exact lends_nil | (refine lends_cons ?_ ?_; (· (first | exact lend_v | (refine lend_ints ?_; first | rfl | omega))))))
    repeat (first | (refine step_ops ?_; (first | (refine m_mov (by conv => lhs; whnf) ?_) | (refine m_eql rfl rfl ?_) | (apply m_ld_pt; (· rfl); (· rfl); (· rfl)) | (refine m_fa rfl ?_))) | refine end_ops ?_ | refine seq_ops ?_ | (refine cond_t rfl ?_ ?_; (· first | rfl | assumption | (refine decide_eq_true ?_; first | assumption | omega) | (refine nt ?_; first | assumption | omega) | (simp [*]; done))) | refine skip_then ?_ | refine AW_seq ?_ | refine AW_ret ?_ | refine ret_done ?_ | refine AW_block ?_ | refine ret_block ?_)
    exact outs_b rfl
  by_cases h4 : k = 4
  · rw [if_pos (.inr h4)]
    repeat (first | (refine step_ops ?_; (first | (refine m_mov (by conv => lhs; whnf) ?_) | (refine m_len_ro rfl ?_) | (refine m_ldall rfl rfl ?_ ?_; (· first | rfl | (simp; done) | (simp [*]; done))))) | refine end_ops ?_ | refine seq_ops ?_ | refine AW_seq ?_)
    (refine step_ops ?_); (apply m_call (hct)); (· repeat (first | exact lends_nil | (refine lends_cons ?_ ?_; (· (first | exact lend_v | (refine lend_agg ?_; first | rfl | assumption | (simp [plainV]; done)))))))
    repeat (first | (refine step_ops ?_; (first | (refine m_mov (by conv => lhs; whnf) ?_) | (refine m_not rfl ?_) | (apply m_ld_pt; (· rfl); (· rfl); (· rfl)) | (refine m_fa rfl ?_))) | refine end_ops ?_ | refine seq_ops ?_ | (refine cond_f rfl ?_ ?_; (· first | rfl | assumption | (refine decide_eq_false ?_; first | assumption | omega) | (refine nf ?_; first | assumption | omega) | (simp [*]; done))) | refine skip_then ?_)
    (refine step_ops ?_); (apply m_call (hto)); (· repeat (first | exact lends_nil | (refine lends_cons ?_ ?_; (· (first | exact lend_v | (refine lend_ints ?_; first | rfl | omega))))))
    repeat (first | (refine step_ops ?_; (first | (refine m_mov (by conv => lhs; whnf) ?_) | (refine m_eql rfl rfl ?_) | (apply m_ld_pt; (· rfl); (· rfl); (· rfl)) | (refine m_fa rfl ?_))) | refine end_ops ?_ | refine seq_ops ?_ | refine AW_ops ?_ | (refine cond_t rfl ?_ ?_; (· first | rfl | assumption | (refine decide_eq_true ?_; first | assumption | omega) | (refine nt ?_; first | assumption | omega) | (simp [*]; done))) | (refine cond_f rfl ?_ ?_; (· first | rfl | assumption | (refine decide_eq_false ?_; first | assumption | omega) | (refine nf ?_; first | assumption | omega) | (simp [*]; done))) | refine AW_seq ?_ | refine AW_ret ?_ | refine ret_done ?_ | refine norm_then ?_ | refine AW_block ?_ | refine ret_block ?_)
    exact outs_b rfl
  by_cases h1 : k = 1
  · rw [if_neg (by omega), if_pos h1]
    repeat (first | (refine step_ops ?_; (first | (refine m_mov (by conv => lhs; whnf) ?_) | (refine m_len_ro rfl ?_) | (refine m_ldall rfl rfl ?_ ?_; (· first | rfl | (simp; done) | (simp [*]; done))))) | refine end_ops ?_ | refine seq_ops ?_ | refine AW_seq ?_)
    (refine step_ops ?_); (apply m_call (hct)); (· repeat (first | exact lends_nil | (refine lends_cons ?_ ?_; (· (first | exact lend_v | (refine lend_agg ?_; first | rfl | assumption | (simp [plainV]; done)))))))
    repeat (first | (refine step_ops ?_; (first | (refine m_mov (by conv => lhs; whnf) ?_) | (refine m_not rfl ?_) | (apply m_ld_pt; (· rfl); (· rfl); (· rfl)) | (refine m_fa rfl ?_))) | refine end_ops ?_ | refine seq_ops ?_ | (refine cond_f rfl ?_ ?_; (· first | rfl | assumption | (refine decide_eq_false ?_; first | assumption | omega) | (refine nf ?_; first | assumption | omega) | (simp [*]; done))) | refine skip_then ?_)
    (refine step_ops ?_); (apply m_call (hto)); (· repeat (first | exact lends_nil | (refine lends_cons ?_ ?_; (· (first | exact lend_v | (refine lend_ints ?_; first | rfl | omega))))))
    repeat (first | (refine step_ops ?_; (first | (refine m_mov (by conv => lhs; whnf) ?_) | (refine m_eql rfl rfl ?_) | (refine m_neq rfl rfl ?_) | (apply m_ld_pt; (· rfl); (· rfl); (· rfl)) | (refine m_fa rfl ?_))) | refine end_ops ?_ | refine seq_ops ?_ | refine AW_ops ?_ | (refine cond_t rfl ?_ ?_; (· first | rfl | assumption | (refine decide_eq_true ?_; first | assumption | omega) | (refine nt ?_; first | assumption | omega) | (simp [*]; done))) | (refine cond_f rfl ?_ ?_; (· first | rfl | assumption | (refine decide_eq_false ?_; first | assumption | omega) | (refine nf ?_; first | assumption | omega) | (simp [*]; done))) | refine AW_seq ?_ | refine AW_ret ?_ | refine ret_done ?_ | refine norm_then ?_ | refine AW_block ?_ | refine ret_block ?_)
    exact outs_b rfl
  rw [if_neg (by omega), if_neg h1]
  repeat (first | (refine step_ops ?_; (first | (refine m_mov (by conv => lhs; whnf) ?_) | (refine m_len_ro rfl ?_) | (refine m_ldall rfl rfl ?_ ?_; (· first | rfl | (simp; done) | (simp [*]; done))))) | refine end_ops ?_ | refine seq_ops ?_ | refine AW_seq ?_)
  (refine step_ops ?_); (apply m_call (hct)); (· repeat (first | exact lends_nil | (refine lends_cons ?_ ?_; (· (first | exact lend_v | (refine lend_agg ?_; first | rfl | assumption | (simp [plainV]; done)))))))
  repeat (first | (refine step_ops ?_; (first | (refine m_mov (by conv => lhs; whnf) ?_) | (refine m_not rfl ?_) | (apply m_ld_pt; (· rfl); (· rfl); (· rfl)) | (refine m_fa rfl ?_))) | refine end_ops ?_ | refine seq_ops ?_ | (refine cond_f rfl ?_ ?_; (· first | rfl | assumption | (refine decide_eq_false ?_; first | assumption | omega) | (refine nf ?_; first | assumption | omega) | (simp [*]; done))) | refine skip_then ?_)
  (refine step_ops ?_); (apply m_call (hto)); (· repeat (first | exact lends_nil | (refine lends_cons ?_ ?_; (· (first | exact lend_v | (refine lend_ints ?_; first | rfl | omega))))))
  repeat (first | (refine step_ops ?_; (first | (refine m_mov (by conv => lhs; whnf) ?_) | (refine m_eql rfl rfl ?_) | (apply m_ld_pt; (· rfl); (· rfl); (· rfl)) | (refine m_fa rfl ?_))) | refine end_ops ?_ | refine seq_ops ?_ | refine AW_ops ?_ | (refine cond_f rfl ?_ ?_; (· first | rfl | assumption | (refine decide_eq_false ?_; first | assumption | omega) | (refine nf ?_; first | assumption | omega) | (simp [*]; done))) | refine AW_seq ?_ | refine AW_ret ?_ | refine ret_done ?_ | refine norm_then ?_ | refine AW_block ?_ | refine ret_block ?_)
  exact outs_b rfl
end Go.Proofs.Ytpohldecllkjbaa
namespace Go.Proofs.Ytpohldecllkjbaa
open Go.Am
def isStruct : Option TypeDesc → Bool
  | some (.struct _) => true
  | _ => false
theorem under_noClue : ∃ fs, Try.prog.underlying 74 = some (.struct fs) := by
  have h : isStruct (Try.prog.underlying 74) = true := by kernel_rfl
  cases e : Try.prog.underlying 74 with
  | none => rw [e] at h; cases h
  | some t =>
    rw [e] at h
    cases t <;> first | exact ⟨_, rfl⟩ | cases h
theorem ta_yes (u : TypeId) (v : Value) (w : World) : Sem.run Try.prog (Instr.typeAssert (.iface 74 v) u 74 true) w = .ok (.tuple #[v, .bool true]) w := by
  obtain ⟨fs, h⟩ := under_noClue
  unfold Instr.typeAssert
  simp [go_sem]
theorem ta_no (u : TypeId) (w : World) : Sem.run Try.prog (Instr.typeAssert .nilIface u 74 true) w = .ok (.tuple #[.agg #[.int .i64 0, .int .i64 0, .int .i64 0], .bool false]) w := by
  obtain ⟨fs, h⟩ := under_noClue
  unfold Instr.typeAssert
  simp [go_sem]
theorem cell_at {w : World} {b : Nat} {cur : Array Value} {e : TypeId} (h : w.heap[b]? = some (.cells cur e (0, 0))) (h0 : 0 < cur.size) : w.cell? ⟨b, 0, none⟩ = some cur[0] ∧ w.frozen? ⟨b, 0, none⟩ = false := by
  constructor
  · simp [World.cell?, h, h0]
  · simp [World.frozen?, h]
theorem set_same {w : World} {b : Nat} {cur : Array Value} {e : TypeId} {fz : Nat × Nat} (h : w.heap[b]? = some (.cells cur e fz)) (v : Value) : (w.setCell ⟨b, 0, none⟩ v).heap[b]? = some (.cells (cur.setIfInBounds 0 v) e fz) := by
  simp [World.setCell, Array.getElem?_modify, h]
theorem set_other {w : World} {b b' : Nat} (h : b' ≠ b) (v : Value) : (w.setCell ⟨b, 0, none⟩ v).heap[b']? = w.heap[b']? := by
  simp [World.setCell, Array.getElem?_modify, Ne.symm h]
theorem set_size {w : World} {b : Nat} (v : Value) : (w.setCell ⟨b, 0, none⟩ v).heap.size = w.heap.size := by simp [World.setCell]
/-- What the door's closure leaves where it has caught a clue that is none. -/
structure Caught (w w' : World) (bp bq : Nat) : Prop where
  os : w'.os = w.os
  tape : w'.tape = w.tape
  output : w'.output = w.output
  size : w.heap.size ≤ w'.heap.size
  block : ∀ b, b < w.heap.size → b ≠ bp → b ≠ bq → w'.heap[b]? = w.heap[b]?
  cellp : w'.cell? ⟨bp, 0, none⟩ = some (.slice none 0 0)
  cellq : w'.cell? ⟨bq, 0, none⟩ = some (.bool false)
set_option maxRecDepth 8000 in
theorem door_catches (bp bq : Nat) (k a b : Int) (w : World) (cp cq : Array Value) (ep eq : TypeId) (hp : w.heap[bp]? = some (.cells cp ep (0, 0))) (hq : w.heap[bq]? = some (.cells cq eq (0, 0))) (hcp : 0 < cp.size) (hcq : 0 < cq.size) (hne : bp ≠ bq) :
    CallsD Try.prog 74 #[.pointer (some ⟨bp, 0, none⟩), .pointer (some ⟨bq, 0, none⟩)] (.panicking [{ v := .iface 74 (.agg #[.int .i64 k, .int .i64 a, .int .i64 b]), recovered := false }]) w fun e u' w' =>
      e = .returned (.tuple #[]) ∧ u' = .panicking [{ v := .iface 74 (.agg #[.int .i64 k, .int .i64 a, .int .i64 b]), recovered := true }] ∧ Caught w w' bp bq := by
  have key : ∀ o : Obj, (w.alloc o).cell? ⟨bp, 0, none⟩ = some cp[0] ∧ (w.alloc o).frozen? ⟨bp, 0, none⟩ = false ∧ ((w.alloc o).setCell ⟨bp, 0, none⟩ (.slice none 0 0)).cell? ⟨bq, 0, none⟩ = some cq[0] ∧ ((w.alloc o).setCell ⟨bp, 0, none⟩ (.slice none 0 0)).frozen? ⟨bq, 0, none⟩ = false ∧
      Caught w (((w.alloc o).setCell ⟨bp, 0, none⟩ (.slice none 0 0)).setCell ⟨bq, 0, none⟩ (.bool false)) bp bq := by
    intro o
    have hm := More.alloc w o
    have h1 : (w.alloc o).heap[bp]? = some (.cells cp ep (0, 0)) := (hm.block bp (lt_of_get hp)).trans hp
    have h2 : (w.alloc o).heap[bq]? = some (.cells cq eq (0, 0)) := (hm.block bq (lt_of_get hq)).trans hq
    have h3 := set_same h1 (.slice none 0 0)
    have h4 := (set_other (w := w.alloc o) (Ne.symm hne) (.slice none 0 0)).trans h2
    have h5 := set_same h4 (.bool false)
    have h6 := (set_other (w := (w.alloc o).setCell ⟨bp, 0, none⟩ (.slice none 0 0)) hne (.bool false)).trans h3
    refine ⟨(cell_at h1 hcp).1, (cell_at h1 hcp).2, (cell_at h4 hcq).1, (cell_at h4 hcq).2, rfl, rfl, rfl, ?_, fun b hb n1 n2 => ?_, ?_, ?_⟩
    · rw [set_size, set_size]; exact hm.size
    · rw [set_other n2, set_other n1]; exact hm.block b hb
    · simp [World.cell?, h6, hcp]
    · simp [World.cell?, h5, hcq]
  refine callsD_of_wpS Try.func74 rfl fun c₀ cs hu => ?_
  apply wpS_seq
  apply wpS_region
  simp [wpOpsS, go_sem, recoverD, hu, Try.ntmps74, Exit.thenS, ta_yes]
  apply wpS_seq
  apply wpS_region
  simp [wpOpsS, go_sem, Exit.thenS]
  refine wpS_cond (t := true) (by simp [Act.eval, Array.replicate]) ?_
  simp only [if_true]
  apply wpS_region
  have k1 := fun o => (key o).1
  have k2 := fun o => (key o).2.1
  have k3 := fun o => (key o).2.2.1
  have k4 := fun o => (key o).2.2.2.1
  have k5 := fun o => (key o).2.2.2.2
  simp [wpOpsS, go_sem, bodyPostS, results, Try.results74, k1, k2, k3, k4, k5]
set_option maxRecDepth 8000 in
theorem door_idle (p q : Addr) (w : World) :
    CallsD Try.prog 74 #[.pointer (some p), .pointer (some q)] .returning w fun e u' w' => e = .returned (.tuple #[]) ∧ u' = .returning ∧ More w w' := by
  refine callsD_of_wpS Try.func74 rfl fun c₀ cs hu => ?_
  apply wpS_seq
  apply wpS_region
  simp [wpOpsS, go_sem, recoverD, hu, Try.ntmps74, Exit.thenS, ta_no]
  apply wpS_seq
  apply wpS_region
  simp [wpOpsS, go_sem, Exit.thenS]
  refine wpS_cond (t := false) (by simp [Act.eval, Array.replicate]) ?_
  simp only [Bool.false_eq_true, if_false]
  refine wpS_of_wp (wp_skip ?_)
  cases c₀
  simp only at hu
  subst hu
  simp [bodyPostS, results, Try.results74]
  exact More.alloc w _
end Go.Proofs.Ytpohldecllkjbaa
namespace Go.Am
def sqa : ACode → ACode
  | .seq a _ => a
  | c => c
def sqb : ACode → ACode
  | .seq _ b => b
  | c => c
end Go.Am
namespace Go.Proofs.Ytpohldecllkjbaa
open Go.Am
attribute [local irreducible] AW Outs Weak Lends Lend Sp aops atree aop1 Then Round InBlock Done
attribute [local irreducible] SpM DoneM SpH DoneH SpP
/-- What is raised for a clue. -/
def IsNo (c : Clu) (v : Value) : Prop := v = .iface 74 (.agg #[.int .i64 c.1, .int .i64 c.2.1, .int .i64 c.2.2])
set_option maxRecDepth 8000 in
theorem fits_code : ∃ A B rest o0 o1 o2 ao id, Try.f73.body = some (.seq A (.seq (.seq B (.cond (.tmp 10) (.region id #[o0, o1, o2] false) .skip)) rest)) ∧
    ccode Try.prog (min Try.f73.ntmps pbase) A = some (sqa ac73) ∧ ccode Try.prog (min Try.f73.ntmps pbase) B = some (sqa (sqa (sqb ac73))) ∧
    cop Try.prog (min Try.f73.ntmps pbase) #[o0, o1, o2] o0 = some ao ∧ ao = ⟨some 11, .ld (some 3) (.t 2), none⟩ ∧ o1.op = .makeInterface 74 (.tmp 11) ∧ o1.dst = some 12 ∧ o1.guard = none ∧ o2.op = .panic (.tmp 12) ∧ o2.guard = none :=
  ⟨_, _, _, _, _, _, ⟨some 11, .ld (some 3) (.t 2), none⟩, _, rfl, by kernel_rfl, by kernel_rfl, by kernel_rfl, rfl, rfl, rfl, rfl, rfl, rfl⟩
theorem fits_throws (L : List Int) (k a b : Int) (hc : ¬ IsClu L.length (k, a, b)) : SpP Try.prog 73 [.agg [.i k, .i a, .i b], ints L] (IsNo (k, a, b)) := by
  have hct := canTell_spec L.length k a b
  rw [decide_eq_false hc] at hct
  obtain ⟨A, B, rest, o0, o1, o2, ao, id, hb, hA, hB, h0, rfl, h1, h1d, h1g, h2, h2g⟩ := fits_code
  refine specPC_of Try.func73 hb ?_
  refine CW_seq (AW.toC ?_ hA)
  simp only [sqa, ac73]
  refine AW_ops ?_
  refine step_ops ?_
  refine m_box (l := [.i k, .i a, .i b]) rfl rfl ?_
  repeat (first | (refine step_ops ?_; (refine m_mov (by conv => lhs; whnf) ?_)) | refine end_ops ?_ | refine norm_then ?_)
  refine CW_seq (CW_seq (AW.toC ?_ hB))
  simp only [sqa, sqb, ac73]
  repeat (first | (refine step_ops ?_; (first | (refine m_mov (by conv => lhs; whnf) ?_) | (refine m_len_ro rfl ?_) | (refine m_ldall rfl rfl ?_ ?_; (· first | rfl | (simp; done) | (simp [*]; done))))) | refine AW_ops ?_)
  refine step_ops ?_; (apply m_call (hct)); (· repeat (first | exact lends_nil | (refine lends_cons ?_ ?_; (· (first | exact lend_v | (refine lend_agg ?_; first | rfl | assumption | (simp [plainV]; done)))))))
  repeat (first | (refine step_ops ?_; (refine m_not rfl ?_)) | refine end_ops ?_ | refine norm_then ?_)
  refine CW_cond (b := true) rfl (fun _ => ?_) (fun e => by cases e)
  refine CW_throw (vs := [.int .i64 k, .int .i64 a, .int .i64 b]) h0 h1 h1d h1g h2 h2g (by decide) under_noClue ?_ ?_
  · refine step_ops ?_
    refine m_ldk rfl (by rfl) (by simp) ?_
    refine end_ops ?_
    rfl
  · intro s'
    unfold Then
    exact ⟨_, rfl, rfl⟩
/-- A clue out of a list of them. -/
theorem getD_clu {C : List Clu} {k : Nat} (h : k < C.length) : C.getD k (0, 0, 0) ∈ C := by
  rw [List.getD_eq_getElem?_getD, List.getElem?_eq_getElem h]
  exact List.getElem_mem h
theorem snoc_clu {C : List Clu} {k : Nat} (h : k < C.length) : C.take (k + 1) = C.take k ++ [C.getD k (0, 0, 0)] := by
  rw [List.take_add_one, List.getElem?_eq_getElem h, List.getD_eq_getElem?_getD, List.getElem?_eq_getElem h]
  rfl
/-- Do the first k fit? -/
def fitK (C : List Clu) (L : List Int) (k : Nat) : Bool := (C.take k).all (fitC L)
theorem fitK_succ {C : List Clu} {L : List Int} {k : Nat} (h : k < C.length) : fitK C L (k + 1) = (fitC L (C.getD k (0, 0, 0)) && fitK C L k) := by
  unfold fitK
  rw [snoc_clu h, List.all_append, Bool.and_comm]
  simp
theorem fitsAll_spec (n : Nat) (C : List Clu) (L : List Int) (hC : C.length ≤ 6) (h : IsEx L) (hn : L.length = n) (hcl : ∀ c ∈ C, IsClu n c) : Sp Try.prog 78 [.ro false 3 (cls C) C.length, ints L] (.b (C.all (fitC L))) := by
  have hL : L.length ≤ 1048576 := by have := h.2.1; omega
  have e0 : C.all (fitC L) = fitK C L C.length := by unfold fitK; rw [List.take_length]
  rw [e0]
  refine spec_of Try.func78 rfl cc78 rfl ?_
  unfold ac78
  repeat (first | (refine step_ops ?_; (first | (refine m_mov (by conv => lhs; whnf) ?_) | (refine m_len_ro rfl ?_))) | refine end_ops ?_ | refine seq_ops ?_ | refine AW_seq ?_ | refine AW_block ?_)
  refine AW_loop (α := Nat) (fun k => k ≤ C.length) (fun k => st [(1, ints L), (5, .b (fitK C L k)), (8, .ro false 3 (cls C) C.length), (9, .i C.length), (10, .i k)] []) (fun k => C.length - k) 0 (Nat.zero_le _) (weak_st ?_ ?_ rfl rfl) ?_
  · (repeat' (first | exact trivial | refine And.intro ?_ ?_)) <;> (first | rfl | skip)
  · (repeat' (first | exact trivial | refine And.intro ?_ ?_)) <;> (first | rfl | skip)
  intro k hk
  by_cases hlt : k < C.length
  · have hs := fitK_succ (L := L) hlt
    have hmem := getD_clu hlt
    rcases hce : C.getD k (0, 0, 0) with ⟨c1, c2, c3⟩
    rw [hce] at hs hmem
    have hfi := fits_spec L c1 c2 c3 h (by rw [hn]; exact hcl _ hmem)
    generalize fitC L (c1, c2, c3) = F at *
    repeat (first | (refine step_ops ?_; (first | (refine m_lss rfl rfl ?_) | (refine m_idx_ro rfl rfl ?_ ?_ ?_; (· omega); (· omega)))) | refine end_ops ?_ | refine seq_ops ?_ | (refine cond_t rfl ?_ ?_; (· first | rfl | assumption | (refine decide_eq_true ?_; first | assumption | omega) | (refine nt ?_; first | assumption | omega) | (simp [*]; done))) | refine skip_then ?_ | refine AW_seq ?_ | refine AW_block ?_)
    refine step_ops ?_
    refine m_ldClu hlt hce rfl ?_
    repeat (first | (refine step_ops ?_; (first | (refine m_mov (by conv => lhs; whnf) ?_) | (refine m_alloc ?_) | (refine m_ldall rfl rfl ?_ ?_; (· first | rfl | (simp; done) | (simp [*]; done))) | (refine m_stall rfl rfl rfl ?_ ?_ ?_ ?_; (· first | rfl | (simp [*]; done)); (· first | rfl | (simp [*]; done)); (· first | rfl | (simp [cellOk, Value.oneCell']; done))))) | refine end_ops ?_ | refine AW_ops ?_)
    (refine step_ops ?_); (apply m_call (hfi)); (· repeat (first | exact lends_nil | (refine lends_cons ?_ ?_; (· (first | (refine lend_ints ?_; first | rfl | omega) | (refine lend_agg ?_; first | rfl | assumption | (simp [plainV]; done)))))))
    cases F
    all_goals
      repeat (first | (refine step_ops ?_; (first | ((try (refine g_yes rfl ?_ ?_; (· first | rfl | assumption | (refine decide_eq_true ?_; first | assumption | omega) | (refine nt ?_; first | assumption | omega) | (simp [*]; done) | (refine decide_eq_false ?_; first | assumption | omega) | (refine nf ?_; first | assumption | omega)))); (first | (refine m_mov (by conv => lhs; whnf) ?_) | (refine m_add rfl rfl ?_ ?_ ?_; (· omega); (· omega)) | (refine m_pick_t rfl ?_ (by conv => lhs; whnf) ?_; (· first | rfl | assumption | (refine decide_eq_true ?_; first | assumption | omega) | (refine nt ?_; first | assumption | omega) | (simp [*]; done))) | (refine m_pick_f rfl ?_ (by conv => lhs; whnf) ?_; (· first | rfl | assumption | (refine decide_eq_false ?_; first | assumption | omega) | (refine nf ?_; first | assumption | omega) | (simp [*]; done))))) | (refine g_noT rfl ?_ ?_; (· first | rfl | assumption | (refine decide_eq_false ?_; first | assumption | omega) | (refine nf ?_; first | assumption | omega) | (simp [*]; done))))) | refine end_ops ?_ | refine AW_ops ?_ | refine norm_then ?_ | refine norm_block ?_)
      refine next_round (k + 1) (by omega) (weak_st ?_ ?_ rfl rfl) ?_
      · rw [hs]
        (repeat' (first | exact trivial | refine And.intro ?_ ?_)) <;> (first | rfl | skip)
      · (repeat' (first | exact trivial | refine And.intro ?_ ?_)) <;> (first | rfl | skip)
      · omega
  · obtain rfl : k = C.length := by omega
    repeat (first | (refine step_ops ?_; (first | (refine m_mov (by conv => lhs; whnf) ?_) | (refine m_lss rfl rfl ?_))) | refine end_ops ?_ | refine seq_ops ?_ | (refine cond_f rfl ?_ ?_; (· first | rfl | assumption | (refine decide_eq_false ?_; first | assumption | omega) | (refine nf ?_; first | assumption | omega) | (simp [*]; done))) | refine AW_seq ?_ | refine AW_ret ?_ | refine ret_done ?_ | refine norm_then ?_ | refine exit_then ?_ | refine exit_round ?_ | refine AW_exit ?_ | refine exit_block ?_)
    exact outs_b rfl
/-- What is raised is a clue. -/
def NoV (v : Value) : Prop := ∃ c : Clu, IsNo c v
theorem sp_no {f : FuncId} {xs : List AV} {c : Clu} (h : SpP Try.prog f xs (IsNo c)) : SpP Try.prog f xs NoV := by
  unfold SpP at *
  exact fun w vs h1 h2 => (h w vs h1 h2).mono fun e w' ⟨v, k1, k2, k3⟩ => ⟨v, k1, ⟨c, k2⟩, k3⟩
theorem fitsAll_throws (n : Nat) (C : List Clu) (L : List Int) (hC : C.length ≤ 6) (h : IsEx L) (hn : L.length = n) (hbad : ∃ c ∈ C, ¬ IsClu n c) : SpP Try.prog 78 [.ro false 3 (cls C) C.length, ints L] NoV := by
  have hL : L.length ≤ 1048576 := by have := h.2.1; omega
  refine specP_of Try.func78 rfl cc78 ?_
  unfold ac78
  repeat (first | (refine step_ops ?_; (first | (refine m_mov (by conv => lhs; whnf) ?_) | (refine m_len_ro rfl ?_))) | refine end_ops ?_ | refine seq_ops ?_ | refine AW_seq ?_ | refine AW_block ?_)
  refine AW_loop (α := Nat) (fun k => k ≤ C.length ∧ ∀ c ∈ C.take k, IsClu n c) (fun k => st [(1, ints L), (5, .b (fitK C L k)), (8, .ro false 3 (cls C) C.length), (9, .i C.length), (10, .i k)] []) (fun k => C.length - k) 0 ⟨Nat.zero_le _, by simp⟩ (weak_st ?_ ?_ rfl rfl) ?_
  · (repeat' (first | exact trivial | refine And.intro ?_ ?_)) <;> (first | rfl | skip)
  · (repeat' (first | exact trivial | refine And.intro ?_ ?_)) <;> (first | rfl | skip)
  rintro k ⟨hk, hI⟩
  by_cases hlt : k < C.length
  · have hs := fitK_succ (L := L) hlt
    have hmem := getD_clu hlt
    have hsn := snoc_clu hlt
    rcases hce : C.getD k (0, 0, 0) with ⟨c1, c2, c3⟩
    rw [hce] at hs hmem hsn
    by_cases hgood : IsClu n (c1, c2, c3)
    · have hfi := fits_spec L c1 c2 c3 h (by rw [hn]; exact hgood)
      generalize fitC L (c1, c2, c3) = F at *
      repeat (first | (refine step_ops ?_; (first | (refine m_lss rfl rfl ?_) | (refine m_idx_ro rfl rfl ?_ ?_ ?_; (· omega); (· omega)))) | refine end_ops ?_ | refine seq_ops ?_ | (refine cond_t rfl ?_ ?_; (· first | rfl | assumption | (refine decide_eq_true ?_; first | assumption | omega) | (refine nt ?_; first | assumption | omega) | (simp [*]; done))) | refine skip_then ?_ | refine AW_seq ?_ | refine AW_block ?_)
      refine step_ops ?_
      refine m_ldClu hlt hce rfl ?_
      repeat (first | (refine step_ops ?_; (first | (refine m_mov (by conv => lhs; whnf) ?_) | (refine m_alloc ?_) | (refine m_ldall rfl rfl ?_ ?_; (· first | rfl | (simp; done) | (simp [*]; done))) | (refine m_stall rfl rfl rfl ?_ ?_ ?_ ?_; (· first | rfl | (simp [*]; done)); (· first | rfl | (simp [*]; done)); (· first | rfl | (simp [cellOk, Value.oneCell']; done))))) | refine end_ops ?_ | refine AW_ops ?_)
      (refine step_ops ?_); (apply m_call (hfi)); (· repeat (first | exact lends_nil | (refine lends_cons ?_ ?_; (· (first | (refine lend_ints ?_; first | rfl | omega) | (refine lend_agg ?_; first | rfl | assumption | (simp [plainV]; done)))))))
      cases F
      all_goals
        repeat (first | (refine step_ops ?_; (first | ((try (refine g_yes rfl ?_ ?_; (· first | rfl | assumption | (refine decide_eq_true ?_; first | assumption | omega) | (refine nt ?_; first | assumption | omega) | (simp [*]; done) | (refine decide_eq_false ?_; first | assumption | omega) | (refine nf ?_; first | assumption | omega)))); (first | (refine m_mov (by conv => lhs; whnf) ?_) | (refine m_add rfl rfl ?_ ?_ ?_; (· omega); (· omega)) | (refine m_pick_t rfl ?_ (by conv => lhs; whnf) ?_; (· first | rfl | assumption | (refine decide_eq_true ?_; first | assumption | omega) | (refine nt ?_; first | assumption | omega) | (simp [*]; done))) | (refine m_pick_f rfl ?_ (by conv => lhs; whnf) ?_; (· first | rfl | assumption | (refine decide_eq_false ?_; first | assumption | omega) | (refine nf ?_; first | assumption | omega) | (simp [*]; done))))) | (refine g_noT rfl ?_ ?_; (· first | rfl | assumption | (refine decide_eq_false ?_; first | assumption | omega) | (refine nf ?_; first | assumption | omega) | (simp [*]; done))))) | refine end_ops ?_ | refine AW_ops ?_ | refine norm_then ?_ | refine norm_block ?_)
        refine next_round (k + 1) ⟨by omega, ?_⟩ (weak_st ?_ ?_ rfl rfl) ?_
        · rw [hsn]
          intro c hc
          rw [List.mem_append, List.mem_singleton] at hc
          rcases hc with hc | rfl
          · exact hI c hc
          · exact hgood
        · rw [hs]
          (repeat' (first | exact trivial | refine And.intro ?_ ?_)) <;> (first | rfl | skip)
        · (repeat' (first | exact trivial | refine And.intro ?_ ?_)) <;> (first | rfl | skip)
        · omega
    · have hth := sp_no (fits_throws L c1 c2 c3 (by rw [hn]; exact hgood))
      repeat (first | (refine step_ops ?_; (first | (refine m_lss rfl rfl ?_) | (refine m_idx_ro rfl rfl ?_ ?_ ?_; (· omega); (· omega)))) | refine end_ops ?_ | refine seq_ops ?_ | (refine cond_t rfl ?_ ?_; (· first | rfl | assumption | (refine decide_eq_true ?_; first | assumption | omega) | (refine nt ?_; first | assumption | omega) | (simp [*]; done))) | refine skip_then ?_ | refine AW_seq ?_ | refine AW_block ?_)
      refine step_ops ?_
      refine m_ldClu hlt hce rfl ?_
      ((refine step_ops ?_; (refine m_alloc ?_)))
      ((refine step_ops ?_; (refine m_stall rfl rfl rfl ?_ ?_ ?_ ?_; (· first | rfl | (simp [*]; done)); (· first | rfl | (simp [*]; done)); (· first | rfl | (simp [cellOk, Value.oneCell']; done)))))
      refine end_ops ?_
      refine AW_panic 2 (ok := NoV) ?_
      simp only [List.take_succ_cons, List.take_zero]
      repeat (first | (refine step_ops ?_; (first | (refine m_mov (by conv => lhs; whnf) ?_) | (refine m_ldall rfl rfl ?_ ?_; (· first | rfl | (simp; done) | (simp [*]; done))))) | refine end_ops ?_)
      refine ⟨_, rfl, ⟨rfl, .inl ⟨_, _, _, rfl, hth, ?_⟩⟩, fun v hv => ?_⟩
      · refine lends_cons (lend_agg ?_) (lends_cons (lend_ints ?_) lends_nil)
        · rfl
        · rfl
      · simp only [Then, InBlock, Round]
        exact ⟨v, rfl, hv⟩
  · obtain rfl : k = C.length := by omega
    rw [List.take_length] at hI
    obtain ⟨c, hc, hno⟩ := hbad
    exact absurd (hI c hc) hno
end Go.Proofs.Ytpohldecllkjbaa
namespace Go.Am
theorem lend_nil {hp : Hp} : Lend hp (.v (.slice none 0 0)) (ints []) := by
  intro w0 mu N tm w phi ro v hS hv
  simp only [SimV] at hv ⊢
  exact .inl ⟨rfl, rfl, none, 0, hv, by simp⟩
/-- New memory that a callee made is handed on. -/
theorem outs_ro {s : AS} {z n : Nat} {cs : List AV} (hall : cs.all plainV = true) : Outs s (.ro true z cs n) (.ro true z cs n) := by
  intro w0 N tm w phi ro y hS h
  simp only [SimV] at h ⊢
  rcases h with h | ⟨b, o, cap, cur, e, fz, h1, h2, h3, h4, h5, h6, h7⟩
  · exact .inl h
  · obtain ⟨k1, k2⟩ := h6 trivial
    exact .inr ⟨b, o, cap, cur, e, fz, h1, h2, ⟨k1, lt_of_get h2⟩, h4, h5, fun _ => ⟨k1, k2⟩, simL_allv hall h7⟩
end Go.Am
namespace Go.Proofs.Ytpohldecllkjbaa
open Go.Am
attribute [local irreducible] AW Outs Weak Lends Lend Sp aops atree aop1 Then Round InBlock Done
theorem slicesContains_spec (L : List Int) (c : Int) (hL : L.length ≤ 1048576) : Sp Try.prog 76 [ints L, .i c] (.b (decide (c ∈ L))) := by
  refine spec_of Try.func76 rfl cc76 rfl ?_
  unfold ac76
  repeat (first | (refine step_ops ?_; (refine m_mov (by conv => lhs; whnf) ?_)) | refine end_ops ?_ | refine seq_ops ?_)
  (refine step_ops ?_); (apply m_call (slicesIndex_spec _ _ hL)); (· repeat (first | exact lends_nil | (refine lends_cons ?_ ?_; (· (first | exact lend_v | (refine lend_ints ?_; first | rfl | omega))))))
  repeat (first | (refine step_ops ?_; (first | (refine m_mov (by conv => lhs; whnf) ?_) | (refine m_geq rfl rfl ?_))) | refine end_ops ?_ | refine AW_ret ?_ | refine ret_done ?_)
  refine outs_b ?_
  refine decide_eq_decide.2 ?_
  unfold whoIs
  by_cases h : c ∈ L
  · simp [h]
  · simp [h]
theorem slicesClone_nil_spec : Sp Try.prog 109 [ints []] (newInts []) := by
  refine spec_of Try.func109 rfl cc109 rfl ?_
  unfold ac109
  repeat (first | (refine step_ops ?_; (first | (refine m_mov (by conv => lhs; whnf) ?_) | (refine m_nils ?_))) | refine end_ops ?_ | refine seq_ops ?_ | refine AW_seq ?_)
  refine step_ops ?_
  refine m_isnil_ro0 rfl fun b => ?_
  cases b
  · repeat (first | (refine step_ops ?_; (first | (refine m_mov (by conv => lhs; whnf) ?_) | (refine m_bsl0 ?_))) | refine end_ops ?_ | refine seq_ops ?_ | (refine cond_f rfl ?_ ?_; (· first | rfl | assumption | (refine decide_eq_false ?_; first | assumption | omega) | (refine nf ?_; first | assumption | omega) | (simp [*]; done))) | refine skip_then ?_)
    refine step_ops ?_
    refine m_appro (ys := []) (cs := []) (m := 0) (n := 0) rfl (by decide) rfl rfl rfl rfl (by decide) (by decide) ?_
    repeat (first | (refine step_ops ?_; (refine m_mov (by conv => lhs; whnf) ?_)) | refine end_ops ?_ | refine AW_ret ?_ | refine ret_done ?_)
    exact outs_ints (cs := []) rfl rfl rfl
  · repeat (first | (refine step_ops ?_; (refine m_nils ?_)) | refine end_ops ?_ | refine seq_ops ?_ | (refine cond_t rfl ?_ ?_; (· first | rfl | assumption | (refine decide_eq_true ?_; first | assumption | omega) | (refine nt ?_; first | assumption | omega) | (simp [*]; done))) | refine AW_ret ?_ | refine ret_done ?_ | refine ret_then ?_)
    exact outs_ints (cs := []) rfl rfl rfl
theorem slicesClone0_spec (L : List Int) (hL : L.length ≤ 1048576) : Sp Try.prog 109 [ints L] (newInts L) := by
  by_cases h1 : 1 ≤ L.length
  · exact slicesClone_spec L hL h1
  · obtain rfl : L = [] := by
      cases L with
      | nil => rfl
      | cons a l => simp at h1
    exact slicesClone_nil_spec
/-- What a search finds. -/
def srchR (o : Option (List Int)) : AV := .tup [newInts (o.getD []), .b o.isSome]
theorem fittingFrom_spec {f : FuncId} {fl : List AV} {kk : Nat} {n : Nat} {fits : List Int → Nat → Bool} (A : AsksK Try.prog f fl kk n fits) (l : List Int) (g : Nat) (hn : n ≤ 1000) (hl : l.length < n) (hb : ∀ x ∈ l, 0 ≤ x ∧ x < n) (hg : g ≤ n) :
    Sp Try.prog 103 [.i n, ints l, .i g, .fn f fl kk] (srchR (goAt fits n l g).head?) := by
  unfold srchR
  refine spec_of Try.func103 rfl cc103 rfl ?_
  unfold ac103
  repeat (first | (refine step_ops ?_; (first | (refine m_mov (by conv => lhs; whnf) ?_) | (refine m_nils ?_))) | refine end_ops ?_ | refine seq_ops ?_)
  refine AW_scope (α := Unit) 0 (fun _ => False) (fun _ => st [] []) (fun _ => 0) rfl ?_ (fun _ hf => hf.elim)
  repeat (first | (refine step_ops ?_; (refine m_mov (by conv => lhs; whnf) ?_)) | refine seq_ops ?_)
  (refine step_ops ?_); (apply m_callo (slicesClone0_spec l (by omega))); (· repeat (first | exact lends_nil | (refine lends_cons ?_ ?_; (· (refine lend_ints ?_; first | rfl | omega))))); (· first | exact allv_ints _ | rfl | (simp; done))
  repeat (first | (refine step_ops ?_; (refine m_mov (by conv => lhs; whnf) ?_)) | refine end_ops ?_ | refine seq_ops ?_ | refine AW_seq ?_)
  refine AW_label ?_
  refine norm_then ?_
  repeat (first | refine AW_seq ?_ | refine AW_block ?_)
  refine AW_loop (α := List Int × Nat) (fun a => a.1.length ≤ n ∧ (∀ x ∈ a.1, 0 ≤ x ∧ x < n) ∧ a.2 ≤ n ∧ (goAt fits n a.1 a.2).head? = (goAt fits n l g).head?)
    (fun a => st [(0, .i n), (3, .fn f fl kk), (10, .sl 10 1 0 a.1.length), (11, .i a.2)] [(10, (true, a.1.map AV.i))]) (fun a => goMeas n a.1 a.2) (l, g) ⟨by show l.length ≤ n; omega, hb, hg, rfl⟩
    (Weak.trans (weak_move (r := 14) (q := 10) rfl (by decide) (by decide)) (weak_st ?_ ?_ ?_ rfl)) ?_
  · (repeat' (first | exact trivial | refine And.intro ?_ ?_)) <;> (first | rfl | skip)
    all_goals (simp (disch := decide) [tm_put_ne', tm_mem, tm_kill, tm_mv, tm_en3, kill_fn A.nokill, mv_fn A.nokill])
  · exact ⟨rfl, trivial⟩
  · simp [refsT, refsV, A.norefs, Am.look]
  rintro ⟨M, y⟩ ⟨hM, hMb, hy, hres⟩
  dsimp only at hM hMb hy hres ⊢
  by_cases hfull : M.length = n
  · have hr1 : (goAt fits n l g).head? = some M := by rw [← hres]; exact goAt_full _ _ hfull
    repeat (first | (refine step_ops ?_; (first | (refine m_mov (by conv => lhs; whnf) ?_) | (refine m_eql rfl rfl ?_) | (refine m_len_sl rfl ?_))) | refine end_ops ?_ | refine seq_ops ?_ | (refine cond_t rfl ?_ ?_; (· first | rfl | assumption | (refine decide_eq_true ?_; first | assumption | omega) | (refine nt ?_; first | assumption | omega) | (simp [*]; done))) | refine AW_ret ?_ | refine ret_done ?_ | refine norm_then ?_ | refine AW_block ?_ | refine exit_round ?_ | refine AW_exit ?_ | refine exit_block ?_ | (refine exit_other ?_ ?_; (· decide)))
    rw [hr1]
    exact outs_tup2 (outs_ints rfl rfl rfl) (outs_b rfl)
  · have hMl : M.length < n := by omega
    by_cases hy2 : y < n
    · by_cases hf : fits M y = true
      · repeat (first | (refine step_ops ?_; ((try (refine g_yes rfl ?_ ?_; (· first | rfl | assumption | (refine decide_eq_true ?_; first | assumption | omega) | (refine nt ?_; first | assumption | omega) | (simp [*]; done) | (refine decide_eq_false ?_; first | assumption | omega) | (refine nf ?_; first | assumption | omega)))); (first | (refine m_mov (by conv => lhs; whnf) ?_) | (refine m_lss rfl rfl ?_) | (refine m_eql rfl rfl ?_) | (refine m_len_sl rfl ?_)))) | refine end_ops ?_ | refine seq_ops ?_ | (refine cond_f rfl ?_ ?_; (· first | rfl | assumption | (refine decide_eq_false ?_; first | assumption | omega) | (refine nf ?_; first | assumption | omega) | (simp [*]; done))) | refine AW_block ?_)
        refine step_ops ?_
        refine g_yes rfl ?_ ?_
        · first | rfl | assumption | (refine decide_eq_true ?_; first | assumption | omega) | (refine nt ?_; first | assumption | omega) | (simp [*]; done)
        refine m_callf rfl A.call (A.spec M y (by omega) hMb hy2) ?_ ?_
        · exact asksK_lend A.bears rfl rfl (lends_cons (lend_sli (by rfl) rfl) (lends_cons lend_v lends_nil))
        repeat (first | (refine step_ops ?_; (first | (refine m_mov (by conv => lhs; whnf) ?_) | (refine m_pick_t rfl ?_ (by conv => lhs; whnf) ?_; (· first | rfl | assumption | (refine decide_eq_true ?_; first | assumption | omega) | (refine nt ?_; first | assumption | omega) | (simp [*]; done))) | (refine m_bsl1 rfl rfl ?_) | (refine m_app1i rfl (by decide) (by rfl) (by first | rfl | omega | (simp; done)) rfl rfl ?_ (by decide) ?_; (· first | omega | (simp; omega))))) | refine end_ops ?_ | refine seq_ops ?_ | refine AW_ops ?_ | (refine cond_t rfl ?_ ?_; (· first | rfl | assumption | (refine decide_eq_true ?_; first | assumption | omega) | (refine nt ?_; first | assumption | omega) | (simp [*]; done))) | refine norm_block ?_)
        refine next_round (M ++ [(y : Int)], 0) ⟨by simp; omega, fun x hx => ?_, Nat.zero_le _, by rw [← hres]; exact congrArg _ (goAt_take _ _ hMl hy2 hf)⟩ (Weak.trans (weak_move (r := 45) (q := 10) rfl (by decide) (by decide)) (weak_st ?_ ?_ ?_ rfl)) ?_
        · rcases List.mem_append.1 hx with hx | hx
          · exact hMb x hx
          · rw [List.mem_singleton.1 hx]; omega
        · (repeat' (first | exact trivial | refine And.intro ?_ ?_)) <;> (first | rfl | skip)
          all_goals (simp (disch := decide) [tm_put_ne', tm_mem, tm_kill, tm_mv, tm_st, Am.look, kill_fn A.nokill, mv_fn A.nokill])
        · exact ⟨rfl, trivial⟩
        · simp [refsT, refsV, A.norefs, Am.look]
        · exact goMeas_take hMl hy2
      · have hf : fits M y = false := by simpa using hf
        repeat (first | (refine step_ops ?_; ((try (refine g_yes rfl ?_ ?_; (· first | rfl | assumption | (refine decide_eq_true ?_; first | assumption | omega) | (refine nt ?_; first | assumption | omega) | (simp [*]; done) | (refine decide_eq_false ?_; first | assumption | omega) | (refine nf ?_; first | assumption | omega)))); (first | (refine m_mov (by conv => lhs; whnf) ?_) | (refine m_lss rfl rfl ?_) | (refine m_eql rfl rfl ?_) | (refine m_len_sl rfl ?_)))) | refine end_ops ?_ | refine seq_ops ?_ | (refine cond_f rfl ?_ ?_; (· first | rfl | assumption | (refine decide_eq_false ?_; first | assumption | omega) | (refine nf ?_; first | assumption | omega) | (simp [*]; done))) | refine AW_block ?_)
        refine step_ops ?_
        refine g_yes rfl ?_ ?_
        · first | rfl | assumption | (refine decide_eq_true ?_; first | assumption | omega) | (refine nt ?_; first | assumption | omega) | (simp [*]; done)
        refine m_callf rfl A.call (A.spec M y (by omega) hMb hy2) ?_ ?_
        · exact asksK_lend A.bears rfl rfl (lends_cons (lend_sli (by rfl) rfl) (lends_cons lend_v lends_nil))
        repeat (first | (refine step_ops ?_; (first | (refine m_mov (by conv => lhs; whnf) ?_) | (refine m_lss rfl rfl ?_) | (refine m_add rfl rfl ?_ ?_ ?_; (· omega); (· omega)) | (refine m_pick_t rfl ?_ (by conv => lhs; whnf) ?_; (· first | rfl | assumption | (refine decide_eq_true ?_; first | assumption | omega) | (refine nt ?_; first | assumption | omega) | (simp [*]; done))))) | refine end_ops ?_ | refine seq_ops ?_ | refine AW_ops ?_ | (refine cond_t rfl ?_ ?_; (· first | rfl | assumption | (refine decide_eq_true ?_; first | assumption | omega) | (refine nt ?_; first | assumption | omega) | (simp [*]; done))) | (refine cond_f rfl ?_ ?_; (· first | rfl | assumption | (refine decide_eq_false ?_; first | assumption | omega) | (refine nf ?_; first | assumption | omega) | (simp [*]; done))) | refine norm_block ?_)
        refine next_round (M, y + 1) ⟨hM, hMb, hy2, by rw [← hres]; exact congrArg _ (goAt_skip _ _ hMl hy2 hf)⟩ (weak_st ?_ ?_ ?_ rfl) ?_
        · (repeat' (first | exact trivial | refine And.intro ?_ ?_)) <;> (first | rfl | skip)
          all_goals (simp (disch := decide) [tm_put_ne', tm_put_none, tm_mem, tm_kill, tm_mv, tm_st, tm_en0, tm_en1, tm_en2, tm_en3, tm_en4, Am.look, kill_fn A.nokill, mv_fn A.nokill])
        · exact ⟨rfl, trivial⟩
        · simp [refsT, refsV, A.norefs, Am.look]
        · exact goMeas_skip hMl hy2
    · by_cases hM0 : M.length = 0
      · have hr1 : (goAt fits n l g).head? = none := by
          rw [← hres, List.length_eq_zero_iff.1 hM0, goAt_none _ _ (by omega) (by omega)]; rfl
        repeat (first | (refine step_ops ?_; (first | (first | (refine m_mov (by conv => lhs; whnf) ?_) | (refine m_lss rfl rfl ?_) | (refine m_eql rfl rfl ?_) | (refine m_len_sl rfl ?_) | (refine m_pick_f rfl ?_ (by conv => lhs; whnf) ?_; (· first | rfl | assumption | (refine decide_eq_false ?_; first | assumption | omega) | (refine nf ?_; first | assumption | omega) | (simp [*]; done))) | (refine m_nils ?_)) | (refine g_noT rfl ?_ ?_; (· first | rfl | assumption | (refine decide_eq_false ?_; first | assumption | omega) | (refine nf ?_; first | assumption | omega) | (simp [*]; done))))) | refine end_ops ?_ | refine seq_ops ?_ | (refine cond_t rfl ?_ ?_; (· first | rfl | assumption | (refine decide_eq_true ?_; first | assumption | omega) | (refine nt ?_; first | assumption | omega) | (simp [*]; done))) | (refine cond_f rfl ?_ ?_; (· first | rfl | assumption | (refine decide_eq_false ?_; first | assumption | omega) | (refine nf ?_; first | assumption | omega) | (simp [*]; done))) | refine AW_ret ?_ | refine ret_done ?_ | refine ret_then ?_ | refine AW_block ?_ | refine ret_block ?_ | refine ret_round ?_)
        rw [hr1]
        exact outs_tup2 (outs_ints rfl rfl rfl) (outs_b rfl)
      · obtain ⟨q, hq⟩ : ∃ q, M.length = q + 1 := ⟨M.length - 1, by omega⟩
        have hx := hMb _ (getD_mem (show q < M.length by omega))
        obtain ⟨k, hk⟩ := Int.eq_ofNat_of_zero_le hx.1
        have hlen : (M.take q).length = q := List.length_take_of_le (by omega)
        have hsp : M = M.take q ++ [(k : Int)] := by
          have h1 := take_snoc M q 0 (by omega)
          rw [List.take_of_length_le (by omega), hk] at h1
          exact h1
        have hgo : goAt fits n M y = goAt fits n (M.take q) (k + 1) := by
          conv => lhs; rw [hsp]
          rw [goAt_back _ _ (by omega) (by omega), Int.toNat_natCast]
        have hms : goMeas n (M.take q) (k + 1) < goMeas n M y := by
          have := goMeas_back (n := n) (l := M.take q) (x := (k : Int)) (g := y) (by omega)
          rw [← hsp, Int.toNat_natCast] at this
          exact this
        clear hsp
        repeat (first | (refine step_ops ?_; (first | (first | (refine m_mov (by conv => lhs; whnf) ?_) | (refine m_lss rfl rfl ?_) | (refine m_eql rfl rfl ?_) | (refine m_sub rfl rfl ?_ ?_ ?_; (· omega); (· omega)) | (refine m_len_sl rfl ?_) | (refine m_idx_sl rfl rfl ?_ ?_ ?_; (· omega); (· omega)) | (refine m_ld_pti rfl (by rfl) ?_ ?_; (· first | omega | (simp; omega))) | (refine m_pick_f rfl ?_ (by conv => lhs; whnf) ?_; (· first | rfl | assumption | (refine decide_eq_false ?_; first | assumption | omega) | (refine nf ?_; first | assumption | omega) | (simp [*]; done)))) | (refine g_noT rfl ?_ ?_; (· first | rfl | assumption | (refine decide_eq_false ?_; first | assumption | omega) | (refine nf ?_; first | assumption | omega) | (simp [*]; done))))) | refine end_ops ?_ | refine seq_ops ?_ | (refine cond_f rfl ?_ ?_; (· first | rfl | assumption | (refine decide_eq_false ?_; first | assumption | omega) | (refine nf ?_; first | assumption | omega) | (simp [*]; done))) | refine AW_block ?_)
        rw [show (M.length : Int) - 1 = (q : Int) by omega]
        skip
        rw [show M.getD (0 + (q : Int).toNat * 1) 0 = (k : Int) by rw [Int.toNat_natCast, Nat.zero_add, Nat.mul_one]; exact hk]
        repeat (first | (refine step_ops ?_; (first | (refine m_mov (by conv => lhs; whnf) ?_) | (refine m_add rfl rfl ?_ ?_ ?_; (· omega); (· omega)))) | refine end_ops ?_ | refine AW_ops ?_)
        refine step_ops ?_
        refine m_cut_sl (l := 0) (h := q) rfl rfl ⟨_, rfl⟩ (Nat.zero_le _) (by omega) ?_
        repeat (first | (refine step_ops ?_; (refine m_mov (by conv => lhs; whnf) ?_)) | refine end_ops ?_ | refine norm_block ?_)
        refine next_round (M.take q, k + 1) ⟨by show (M.take q).length ≤ _; omega, fun x hx => hMb x (List.mem_of_mem_take hx), by show k + 1 ≤ n; omega, by rw [← hres]; exact congrArg _ hgo.symm⟩ (Weak.trans (weak_shrink 10 q rfl (allv_ints _)) (weak_st ?_ ?_ ?_ rfl)) hms
        · rw [hlen]
          (repeat' (first | exact trivial | refine And.intro ?_ ?_)) <;> (first | rfl | skip)
          all_goals (simp (disch := decide) [tm_put_ne', tm_put_none, tm_mem, tm_kill, tm_mv, tm_st, tm_en0, tm_en1, tm_en2, tm_en3, tm_en4, Am.look, kill_fn A.nokill, mv_fn A.nokill])
        · rw [List.map_take]
          exact ⟨rfl, trivial⟩
        · simp [refsT, refsV, A.norefs, Am.look]
theorem firstFitting_spec {f : FuncId} {fl : List AV} {kk : Nat} {n : Nat} {fits : List Int → Nat → Bool} (A : AsksK Try.prog f fl kk n fits) (hn : n ≤ 1000) (h1 : 1 ≤ n) :
    Sp Try.prog 90 [.i n, .fn f fl kk] (srchR (goOn fits n n []).head?) := by
  have hs := fittingFrom_spec A [] 0 hn h1 (fun x hx => by simp at hx) (Nat.zero_le _)
  rw [goAt_start _ _ h1] at hs
  unfold srchR at hs ⊢
  generalize hsr : (goOn fits n n []).head? = sr at hs ⊢
  refine spec_of Try.func90 rfl cc90 rfl ?_
  unfold ac90
  repeat (first | (refine step_ops ?_; (first | (refine m_mov (by conv => lhs; whnf) ?_) | (refine m_nils ?_))) | refine end_ops ?_ | refine seq_ops ?_)
  refine step_ops ?_
  refine m_callt hs ?_ (allv_ints _) rfl ?_
  · refine lends_cons lend_v (lends_cons lend_nil (lends_cons lend_v (lends_cons ?_ lends_nil)))
    rw [show AS.ev _ (.t 7) = AV.fn f fl kk by (show killV 4 (AV.fn f fl kk) = _; exact kill_fn A.nokill)]
    exact lend_bears A.bears
  repeat (first | (refine step_ops ?_; (first | (refine m_mov (by conv => lhs; whnf) ?_) | (refine m_ext rfl rfl ?_))) | refine end_ops ?_ | refine AW_ret ?_ | refine ret_done ?_)
  exact outs_tup2 (outs_ints rfl rfl rfl) (outs_b rfl)
theorem nextFitting_spec {f : FuncId} {fl : List AV} {kk : Nat} {n : Nat} {fits : List Int → Nat → Bool} (A : AsksK Try.prog f fl kk n fits) (hn : n ≤ 1000) (h1 : 1 ≤ n) (L : List Int) (hL : L.length = n) (hb : ∀ x ∈ L, 0 ≤ x ∧ x < n) :
    Sp Try.prog 91 [ints L, .fn f fl kk] (srchR ((goOn fits n n []).find? (fun m => comesB L m))) := by
  have hbb : ∀ i < n, ∃ g : Nat, L.getD i 0 = g ∧ g < n := fun i hi => by
    have hr := hb _ (getD_mem (show i < L.length by omega))
    obtain ⟨q, hq⟩ := Int.eq_ofNat_of_zero_le hr.1
    exact ⟨q, hq, by omega⟩
  unfold srchR
  refine spec_of Try.func91 rfl cc91 rfl ?_
  unfold ac91
  repeat (first | (refine step_ops ?_; (first | (refine m_mov (by conv => lhs; whnf) ?_) | (refine m_nils ?_))) | refine end_ops ?_ | refine seq_ops ?_ | refine AW_seq ?_ | refine AW_block ?_)
  refine AW_loop (α := Nat) (fun k => k < n ∧ ∀ i < k, fits (L.take i) (L.getD i 0).toNat = true) (fun k => st [(0, ints L), (1, .fn f fl kk), (6, .i k)] []) (fun k => n - k) 0 ⟨by omega, fun i hi => by omega⟩ (weak_st ?_ ?_ ?_ rfl) ?_
  · (repeat' (first | exact trivial | refine And.intro ?_ ?_)) <;> (first | rfl | skip)
    all_goals (simp (disch := decide) [tm_put_ne', tm_mem, tm_kill, tm_en1, kill_fn A.nokill])
  · exact trivial
  · simp [refsT, refsV, A.norefs, Am.look]
  rintro k ⟨hk, ha⟩
  obtain ⟨j, hj, hjn⟩ := hbb k hk
  have hlt : (L.take k).length = k := List.length_take_of_le (by omega)
  have hend : fits (L.take k) (L.getD k 0).toNat = false ∨ k + 1 = n → Sp Try.prog 103 [.i n, ints (L.take k), .i (j + 1), .fn f fl kk] (srchR ((goOn fits n n []).find? (fun m => comesB L m))) := by
    intro he
    rw [find_behind fits n hL hbb hk ha he, hj, Int.toNat_natCast]
    exact fittingFrom_spec A (L.take k) (j + 1) hn (by omega) (fun x hx => hb x (List.mem_of_mem_take hx)) (by omega)
  unfold srchR at hend
  generalize hsr : (goOn fits n n []).find? (fun m => comesB L m) = sr at hend ⊢
  by_cases hc : (k : Int) < L.length - 1
  · have hsp := A.spec (L.take k) j (by omega) (fun x hx => hb x (List.mem_of_mem_take hx)) hjn
    by_cases hf : fits (L.take k) j = true
    · repeat (first | (refine step_tree ?_; ((try (refine g_yes rfl ?_ ?_; (· first | rfl | assumption | (refine decide_eq_true ?_; first | assumption | omega) | (refine nt ?_; first | assumption | omega) | (simp [*]; done) | (refine decide_eq_false ?_; first | assumption | omega) | (refine nf ?_; first | assumption | omega)))); (first | (refine m_mov (by conv => lhs; whnf) ?_) | (refine m_lss rfl rfl ?_) | (refine m_sub rfl rfl ?_ ?_ ?_; (· omega); (· omega)) | (refine m_len_ro rfl ?_) | (refine m_idx1_ro rfl rfl ?_ ?_; (· omega)) | (refine m_ld_rpi rfl ?_ ?_; (· omega)) | (refine m_cut_hi rfl rfl ?_ ?_ ?_; (· first | rfl | omega | simp); (· first | omega | (simp; omega)))))) | refine seq_tree ?_ | refine AW_seq ?_)
      rw [hj]
      skip
      refine step_tree ?_
      refine g_yes rfl ?_ ?_
      · first | rfl | assumption | (refine decide_eq_true ?_; first | assumption | omega) | (refine nt ?_; first | assumption | omega) | (simp [*]; done)
      refine m_callf rfl A.call hsp ?_ ?_
      · exact asksK_lend A.bears rfl rfl (lends_cons (lend_ints rfl) (lends_cons lend_v lends_nil))
      repeat (first | ((first | refine step_ops ?_ | refine step_tree ?_); (first | (refine m_mov (by conv => lhs; whnf) ?_) | (refine m_add rfl rfl ?_ ?_ ?_; (· omega); (· omega)) | (refine m_pick_t rfl ?_ (by conv => lhs; whnf) ?_; (· first | rfl | assumption | (refine decide_eq_true ?_; first | assumption | omega) | (refine nt ?_; first | assumption | omega) | (simp [*]; done))))) | refine end_ops ?_ | refine AW_ops ?_ | refine end_tree ?_ | (refine cond_t rfl ?_ ?_; (· first | rfl | assumption | (refine decide_eq_true ?_; first | assumption | omega) | (refine nt ?_; first | assumption | omega) | (simp [*]; done))) | refine skip_then ?_ | refine AW_block ?_ | refine norm_block ?_)
      refine next_round (k + 1) ⟨by omega, fun i hi => ?_⟩ (weak_st ?_ ?_ ?_ rfl) ?_
      · by_cases hik : i = k
        · subst hik; rw [hj, Int.toNat_natCast]; exact hf
        · exact ha i (by omega)
      · (repeat' (first | exact trivial | refine And.intro ?_ ?_)) <;> (first | rfl | skip)
        all_goals (simp (disch := decide) [tm_put_ne', tm_put_none, tm_mem, tm_kill, tm_mv, tm_st, tm_en0, tm_en1, tm_en2, tm_en3, tm_en4, Am.look, kill_fn A.nokill, mv_fn A.nokill])
      · exact trivial
      · simp [refsT, refsV, A.norefs, Am.look]
      · omega
    · have hf : fits (L.take k) j = false := by simpa using hf
      have hs := hend (.inl (by rw [hj, Int.toNat_natCast]; exact hf))
      repeat (first | (refine step_tree ?_; ((try (refine g_yes rfl ?_ ?_; (· first | rfl | assumption | (refine decide_eq_true ?_; first | assumption | omega) | (refine nt ?_; first | assumption | omega) | (simp [*]; done) | (refine decide_eq_false ?_; first | assumption | omega) | (refine nf ?_; first | assumption | omega)))); (first | (refine m_mov (by conv => lhs; whnf) ?_) | (refine m_lss rfl rfl ?_) | (refine m_sub rfl rfl ?_ ?_ ?_; (· omega); (· omega)) | (refine m_len_ro rfl ?_) | (refine m_idx1_ro rfl rfl ?_ ?_; (· omega)) | (refine m_ld_rpi rfl ?_ ?_; (· omega)) | (refine m_cut_hi rfl rfl ?_ ?_ ?_; (· first | rfl | omega | simp); (· first | omega | (simp; omega)))))) | refine seq_tree ?_ | refine AW_seq ?_)
      rw [hj]
      skip
      refine step_tree ?_
      refine g_yes rfl ?_ ?_
      · first | rfl | assumption | (refine decide_eq_true ?_; first | assumption | omega) | (refine nt ?_; first | assumption | omega) | (simp [*]; done)
      refine m_callf rfl A.call hsp ?_ ?_
      · exact asksK_lend A.bears rfl rfl (lends_cons (lend_ints rfl) (lends_cons lend_v lends_nil))
      repeat (first | (refine step_tree ?_; (first | (refine m_mov (by conv => lhs; whnf) ?_) | (refine m_add rfl rfl ?_ ?_ ?_; (· omega); (· omega)) | (refine m_len_ro rfl ?_) | (refine m_idx1_ro rfl rfl ?_ ?_; (· omega)) | (refine m_ld_rpi rfl ?_ ?_; (· omega)) | (refine m_pick_t rfl ?_ (by conv => lhs; whnf) ?_; (· first | rfl | assumption | (refine decide_eq_true ?_; first | assumption | omega) | (refine nt ?_; first | assumption | omega) | (simp [*]; done))) | (refine m_cut_hi rfl rfl ?_ ?_ ?_; (· first | rfl | omega | simp); (· first | omega | (simp; omega))))) | refine end_tree ?_ | refine seq_tree ?_ | (refine cond_f rfl ?_ ?_; (· first | rfl | assumption | (refine decide_eq_false ?_; first | assumption | omega) | (refine nf ?_; first | assumption | omega) | (simp [*]; done))) | refine norm_then ?_ | refine exit_then ?_ | refine exit_round ?_ | refine AW_exit ?_ | refine exit_block ?_)
      rw [hj]
      skip
      refine step_tree ?_
      refine m_call hs ?_ ?_
      · rw [← hL]
        exact lends_cons lend_v (lends_cons (lend_ints rfl) (lends_cons lend_v (lends_cons (lend_bears A.bears) lends_nil)))
      repeat (first | (refine step_tree ?_; (first | (refine m_mov (by conv => lhs; whnf) ?_) | (refine m_ext rfl rfl ?_))) | refine end_tree ?_ | refine AW_ret ?_ | refine ret_done ?_)
      exact outs_tup2 (outs_ro (allv_ints _)) (outs_b rfl)
  · have hs := hend (.inr (by omega))
    repeat (first | (refine step_tree ?_; (first | (first | (refine m_mov (by conv => lhs; whnf) ?_) | (refine m_lss rfl rfl ?_) | (refine m_add rfl rfl ?_ ?_ ?_; (· omega); (· omega)) | (refine m_sub rfl rfl ?_ ?_ ?_; (· omega); (· omega)) | (refine m_len_ro rfl ?_) | (refine m_idx1_ro rfl rfl ?_ ?_; (· omega)) | (refine m_ld_rpi rfl ?_ ?_; (· omega)) | (refine m_pick_f rfl ?_ (by conv => lhs; whnf) ?_; (· first | rfl | assumption | (refine decide_eq_false ?_; first | assumption | omega) | (refine nf ?_; first | assumption | omega) | (simp [*]; done))) | (refine m_cut_hi rfl rfl ?_ ?_ ?_; (· first | rfl | omega | simp); (· first | omega | (simp; omega)))) | (refine g_noT rfl ?_ ?_; (· first | rfl | assumption | (refine decide_eq_false ?_; first | assumption | omega) | (refine nf ?_; first | assumption | omega) | (simp [*]; done))))) | refine end_tree ?_ | refine seq_tree ?_ | (refine cond_f rfl ?_ ?_; (· first | rfl | assumption | (refine decide_eq_false ?_; first | assumption | omega) | (refine nf ?_; first | assumption | omega) | (simp [*]; done))) | refine AW_seq ?_ | refine norm_then ?_ | refine exit_then ?_ | refine exit_round ?_ | refine AW_exit ?_ | refine exit_block ?_)
    rw [hj]
    skip
    refine step_tree ?_
    refine m_call hs ?_ ?_
    · rw [← hL]
      exact lends_cons lend_v (lends_cons (lend_ints rfl) (lends_cons lend_v (lends_cons (lend_bears A.bears) lends_nil)))
    repeat (first | (refine step_tree ?_; (first | (refine m_mov (by conv => lhs; whnf) ?_) | (refine m_ext rfl rfl ?_))) | refine end_tree ?_ | refine AW_ret ?_ | refine ret_done ?_)
    exact outs_tup2 (outs_ro (allv_ints _)) (outs_b rfl)
end Go.Proofs.Ytpohldecllkjbaa
namespace Go.Am
theorem comesB_asymm : ∀ a b : List Int, comesB a b = true → comesB b a = false
  | [], _, h => by simp [comesB] at h
  | _ :: _, [], h => by simp [comesB] at h
  | a :: l, b :: m, h => by
    simp only [comesB] at h ⊢
    by_cases e : a = b
    · subst e
      simp only [if_true] at h ⊢
      exact comesB_asymm l m h
    · rw [if_neg e] at h
      rw [if_neg fun hh => e hh.symm]
      have := of_decide_eq_true h
      exact decide_eq_false (by omega)
theorem goOn_sorted (fits : List Int → Nat → Bool) (n : Nat) : ∀ (k : Nat) (l : List Int), (goOn fits n k l).Pairwise fun a b => comesB a b = true
  | 0, l => by simp [goOn]
  | k + 1, l => by
    rw [goOn, List.pairwise_flatMap]
    refine ⟨fun x _ => goOn_sorted fits n k _, ?_⟩
    refine List.Pairwise.filter _ (List.Pairwise.imp ?_ List.pairwise_lt_range)
    intro a b hab x hx y hy
    obtain ⟨r, rfl, _⟩ := goOn_shape fits n _ _ _ hx
    obtain ⟨t, rfl, _⟩ := goOn_shape fits n _ _ _ hy
    rw [List.append_assoc, List.append_assoc, comesB_append]
    have h1 : ¬ (a : Int) = (b : Int) := by omega
    simp only [List.singleton_append, comesB, if_neg h1]
    exact decide_eq_true (by omega)
/-- In a sorted list the first behind the one at j is the next one. -/
theorem find_sorted {A : List (List Int)} (h : A.Pairwise fun a b => comesB a b = true) {j : Nat} (hj : j < A.length) : A.find? (fun m => comesB (A.getD j []) m) = A[j + 1]? := by
  have hs : A = A.take (j + 1) ++ A.drop (j + 1) := (List.take_append_drop _ _).symm
  have hg : A.getD j [] = A[j] := by simp [hj]
  have hpw := List.pairwise_iff_getElem.1 h
  have h1 : (A.take (j + 1)).find? (fun m => comesB (A.getD j []) m) = none := by
    rw [List.find?_eq_none]
    intro m hm
    obtain ⟨i, hi, rfl⟩ := List.mem_iff_getElem.1 hm
    rw [List.length_take] at hi
    rw [List.getElem_take, hg]
    by_cases e : i = j
    · subst e; rw [comesB_self]; simp
    · rw [comesB_asymm _ _ (hpw i j (by omega) hj (by omega))]; simp
  have h2 : (A.drop (j + 1)).find? (fun m => comesB (A.getD j []) m) = A[j + 1]? := by
    by_cases e : j + 1 < A.length
    · rw [List.drop_eq_getElem_cons e, List.find?_cons_of_pos (by rw [hg]; exact hpw j (j + 1) hj e (by omega))]
      simp [e]
    · rw [List.drop_eq_nil_of_le (by omega), List.getElem?_eq_none (by omega)]; rfl
  generalize A.getD j [] = B at h1 h2 ⊢
  have h3 : (A.take (j + 1) ++ A.drop (j + 1)).find? (fun m => comesB B m) = A[j + 1]? := by rw [List.find?_append, h1, Option.none_or, h2]
  rw [← hs] at h3
  exact h3
end Go.Am
namespace Go.Am
mutual
theorem renV_none (f : Nat → Nat) : ∀ x : AV, refsV (fun _ => false) x = true → renV f x = x
  | .any, _ => rfl
  | .v _, _ => rfl
  | .ro _ _ _ _, _ => rfl
  | .rp _, _ => rfl
  | .sl _ _ _ _, h => by simp [refsV] at h
  | .pt _ _, h => by simp [refsV] at h
  | .mp _, h => by simp [refsV] at h
  | .itr _, h => by simp [refsV] at h
  | .ob _, _ => rfl
  | .fn _ l _, h => by simp only [refsV] at h; simp only [renV, renL_none f l h]
  | .rmp _ _ _, _ => rfl
  | .fu _ _ _, _ => rfl
  | .agg l, h => by simp only [refsV] at h; simp only [renV, renL_none f l h]
  | .tup l, h => by simp only [refsV] at h; simp only [renV, renL_none f l h]
theorem renL_none (f : Nat → Nat) : ∀ l : List AV, refsL (fun _ => false) l = true → renL f l = l
  | [], _ => rfl
  | a :: l, h => by
    simp only [refsL, Bool.and_eq_true] at h
    simp only [renL, renV_none f a h.1, renL_none f l h.2]
end
theorem ren_fn {f : Nat → Nat} {g : FuncId} {fl : List AV} {k : Nat} (h : ∀ keep, refsL keep fl = true) : renV f (.fn g fl k) = .fn g fl k := by simp only [renV, renL_none f fl (h _)]
theorem tm_stM {l : List (Nat × AV)} {h : List (Nat × (Bool × List AV))} {r0 b t : Nat} {rows : List (List Int)} : (stM l h r0 b rows).tm t = (look l t).getD .any := rfl
theorem tm_eh2 {a b c : AV} {l : List AV} {hp : Hp} : (enterH (a :: b :: c :: l) hp).tm 2 = c := rfl
theorem srchA (A : List (List Int)) (j : Nat) : (AV.tup [newInts ((A[j]?).getD []), .b (A[j]?).isSome]) = .tup [newInts (A.getD j []), .b (decide (j < A.length))] := by
  have e : (A[j]?).isSome = decide (j < A.length) := by
    by_cases h : j < A.length
    · simp [h]
    · simp [h]
  rw [e, List.getD_eq_getElem?_getD]
end Go.Am
namespace Go.Am
/-- May a function value be asked of each of some lists? -/
structure KeepsX (P : Program) (f : FuncId) (fl : List AV) (k : Nat) (A : List (List Int)) (keep : List Int → Bool) : Prop where
  call : Callable P f
  bears : Bears fl
  norefs : ∀ keep, refsL keep fl = true
  nokill : ∀ r, killL r fl = fl
  spec : ∀ M ∈ A, Sp P f (fl.take k ++ [ints M] ++ fl.drop k) (.b (keep M))
theorem tm_eh1 {a b : AV} {l : List AV} {hp : Hp} : (enterH (a :: b :: l) hp).tm 1 = b := rfl
theorem tm_eh0 {a : AV} {l : List AV} {hp : Hp} : (enterH (a :: l) hp).tm 0 = a := rfl
end Go.Am
namespace Go.Proofs.Ytpohldecllkjbaa
open Go.Am
attribute [local irreducible] AW Outs Weak Lends Lend Sp aops atree aop1 Then Round InBlock Done
attribute [local irreducible] SpH DoneH
theorem fittingWhere_spec {f g : FuncId} {fl gl : List AV} {kk gk n : Nat} {fits : List Int → Nat → Bool} {keep : List Int → Bool} (hAs : AsksK Try.prog f fl kk n fits) (A : List (List Int)) (hA : goOn fits n n [] = A) (F : KeepsX Try.prog g gl gk A keep) (hn : n ≤ 12) (h1 : 1 ≤ n) (hal : A.length ≤ 5040) (hmem : ∀ x ∈ A, x.length = n ∧ ∀ y ∈ x, 0 ≤ y ∧ y < n) :
    SpH Try.prog 79 [.i n, .fn f fl kk, .fn g gl gk] (fun _ => none) (.sl nbase 1 0 (A.filter keep).length) (matO (A.filter keep)) := by
  have hpb : pbase = 4000000 := rfl
  have hf := firstFitting_spec hAs (by omega) h1
  have hsort : A.Pairwise fun a b => comesB a b = true := hA ▸ goOn_sorted _ _ _ _
  have hnx : ∀ j, j < A.length → Sp Try.prog 91 [ints (A.getD j []), .fn f fl kk] (.tup [newInts (A.getD (j + 1) []), .b (decide (j + 1 < A.length))]) := by
    intro j hj
    have hm := hmem _ (show A.getD j [] ∈ A by simp [hj])
    have := nextFitting_spec hAs (by omega) h1 _ hm.1 hm.2
    rw [hA, find_sorted hsort hj] at this
    unfold srchR at this
    rw [srchA] at this
    exact this
  rw [hA, List.head?_eq_getElem?] at hf
  unfold srchR at hf
  rw [srchA] at hf
  have hstat : Static (fun _ => none) (.sl nbase 1 0 (A.filter keep).length) (matO (A.filter keep)) := static_mat1 _
  clear hsort hA
  refine specH_of Try.func79 rfl cc79 rfl (by first | exact static_mat1 _ | exact static_mat2 _ _ | assumption) ?_
  unfold ac79
  repeat (first | (refine step_ops ?_; (first | (refine m_mov (by conv => lhs; whnf) ?_) | (refine m_nils ?_))) | refine end_ops ?_ | refine seq_ops ?_ | refine AW_seq ?_)
  refine step_ops ?_
  refine m_callt hf ?_ (allv_ints _) rfl ?_
  · refine lends_cons lend_v (lends_cons (lend_fn ?_) lends_nil)
    rw [hAs.nokill, hAs.nokill]
    exact lends_self hAs.bears _
  repeat (first | (refine step_ops ?_; (first | (refine m_mov (by conv => lhs; whnf) ?_) | (refine m_ext rfl rfl ?_))) | refine end_ops ?_ | refine AW_block ?_)
  refine AW_loop (α := Nat) (fun j => j ≤ A.length) (fun j => stM [(0, .i n), (1, .fn f fl kk), (2, .fn g gl gk), (7, .sl 7 1 0 ((A.take j).filter keep).length), (8, .sl 13 1 0 (A.getD j []).length), (9, .b (decide (j < A.length)))] [(13, (true, (A.getD j []).map AV.i))] 7 1000 ((A.take j).filter keep)) (fun j => A.length - j) 0 (by omega)
    (weak_keep id ?_ ?_ rfl rfl rfl (.inl (by simp [pbase])) ?_ rfl rfl (.inr ⟨rfl, rfl⟩) (fun j hj => by simp at hj)) ?_
  · (repeat' (first | exact trivial | refine And.intro ?_ ?_)) <;> (first | rfl | skip)
    all_goals simp (disch := decide) [tm_put_ne', tm_mem, tm_kill, tm_eh1, tm_eh2, kill_fn F.nokill, ren_fn F.norefs, kill_fn hAs.nokill, ren_fn hAs.norefs]
  · (repeat' (first | exact trivial | refine And.intro ?_ ?_)) <;> (first | rfl | skip)
  · simp [refsT, refsV, F.norefs, hAs.norefs]
  intro j hj
  have hrl := rowsC_len 1000 ((A.take j).filter keep)
  have hle : ((A.take j).filter keep).length ≤ j := Nat.le_trans (List.length_filter_le ..) (List.length_take_le _ _)
  by_cases hc : j < A.length
  · have hin : A.getD j [] ∈ A := by simp [hc]
    have hm := hmem _ hin
    have hnj := hnx j hc
    have hks := F.spec (A.getD j []) hin
    have hml : (A.getD j []).length ≤ 1048576 := by omega
    by_cases hk : keep (A.getD j []) = true
    · have es : (A.take (j + 1)).filter keep = (A.take j).filter keep ++ [A.getD j []] := by
        rw [take_snoc A j [] hc, List.filter_append, List.filter_cons_of_pos hk]; rfl
      rw [hk] at hks
      repeat (first | (refine step_ops ?_; (refine m_mov (by conv => lhs; whnf) ?_)) | refine end_ops ?_ | refine seq_ops ?_ | (refine cond_t rfl ?_ ?_; (· first | rfl | assumption | (refine decide_eq_true ?_; first | assumption | omega) | (refine nt ?_; first | assumption | omega) | (simp [*]; done))) | refine skip_then ?_ | refine AW_seq ?_ | refine AW_block ?_)
      refine step_ops ?_
      refine m_callf rfl F.call hks ?_ ?_
      · exact asksK_lend F.bears rfl rfl (lends_cons (lend_sli (by rfl) rfl) lends_nil)
      repeat (first | (refine step_ops ?_; (refine m_mov (by conv => lhs; whnf) ?_)) | refine end_ops ?_ | refine AW_ops ?_ | (refine cond_t rfl ?_ ?_; (· first | rfl | assumption | (refine decide_eq_true ?_; first | assumption | omega) | (refine nt ?_; first | assumption | omega) | (simp [*]; done))))
      refine step_ops ?_
      refine m_bsl1d rfl rfl ?_
      refine step_ops ?_
      refine m_app1d rfl (by decide) rfl ?_ rfl rfl rfl ?_ (by decide) ?_
      · simp [rowsC_kill, rowsC_len]
      · omega
      repeat (first | (refine step_ops ?_; (refine m_mov (by conv => lhs; whnf) ?_)) | refine end_ops ?_ | refine AW_ops ?_ | refine norm_then ?_ | refine norm_block ?_)
      refine step_ops ?_
      refine m_callt hnj ?_ (allv_ints _) rfl ?_
      · refine lends_cons (lend_sli (by rfl) rfl) (lends_cons (lend_fn ?_) lends_nil)
        simp only [hAs.nokill]
        exact lends_self hAs.bears _
      repeat (first | (refine step_ops ?_; (first | (refine m_mov (by conv => lhs; whnf) ?_) | (refine m_ext rfl rfl ?_))) | refine end_ops ?_)
      refine next_round (j + 1) (by omega) ?_ ?_
      · rw [es, List.length_append]
        refine weak_push (row := A.getD j []) (fun r => if r = 7 then 29 else if r = 13 then 20 else r) 13 ?_ ?_ rfl rfl rfl (by omega) ?_ rfl (by decide) rfl rfl ?_ ?_ ?_
        · (repeat' (first | exact trivial | refine And.intro ?_ ?_)) <;> (first | rfl | skip)
          all_goals simp (disch := decide) [tm_put_ne', tm_mem, tm_kill, tm_stM, Am.look, kill_fn F.nokill, ren_fn F.norefs, kill_fn hAs.nokill, ren_fn hAs.norefs]
        · (repeat' (first | exact trivial | refine And.intro ?_ ?_)) <;> (first | rfl | skip)
        · simp [refsT, refsV, F.norefs, hAs.norefs]
        · simp [rowsC_kill, killL_append, killL]
          rfl
        · rfl
        · (intro j hj; simp (disch := first | omega | assumption) only [hp_put, hp_mem_ne, hp_kill_ne]; first | exact stM_row rfl hj | (rw [stM_row rfl hj]; rfl))
      · omega
    · have hkf : keep (A.getD j []) = false := by simpa using hk
      have es : (A.take (j + 1)).filter keep = (A.take j).filter keep := by
        rw [take_snoc A j [] hc, List.filter_append, List.filter_cons_of_neg hk]; simp
      rw [hkf] at hks
      repeat (first | (refine step_ops ?_; (refine m_mov (by conv => lhs; whnf) ?_)) | refine end_ops ?_ | refine seq_ops ?_ | (refine cond_t rfl ?_ ?_; (· first | rfl | assumption | (refine decide_eq_true ?_; first | assumption | omega) | (refine nt ?_; first | assumption | omega) | (simp [*]; done))) | refine skip_then ?_ | refine AW_seq ?_ | refine AW_block ?_)
      refine step_ops ?_
      refine m_callf rfl F.call hks ?_ ?_
      · exact asksK_lend F.bears rfl rfl (lends_cons (lend_sli (by rfl) rfl) lends_nil)
      repeat (first | (refine step_ops ?_; (refine m_mov (by conv => lhs; whnf) ?_)) | refine end_ops ?_ | refine AW_ops ?_ | (refine cond_f rfl ?_ ?_; (· first | rfl | assumption | (refine decide_eq_false ?_; first | assumption | omega) | (refine nf ?_; first | assumption | omega) | (simp [*]; done))) | refine norm_then ?_ | refine norm_block ?_ | refine AW_skip ?_)
      refine step_ops ?_
      refine m_callt hnj ?_ (allv_ints _) rfl ?_
      · refine lends_cons (lend_sli (by rfl) rfl) (lends_cons ?_ lends_nil)
        exact lend_bears hAs.bears
      repeat (first | (refine step_ops ?_; (first | (refine m_mov (by conv => lhs; whnf) ?_) | (refine m_ext rfl rfl ?_))) | refine end_ops ?_)
      refine next_round (j + 1) (by omega) ?_ ?_
      · rw [es]
        refine weak_keep (fun r => if r = 13 then 20 else r) ?_ ?_ rfl rfl rfl (.inl (by omega)) ?_ rfl rfl ?_ ?_
        · (repeat' (first | exact trivial | refine And.intro ?_ ?_)) <;> (first | rfl | skip)
          all_goals simp (disch := decide) [tm_put_ne', tm_mem, tm_kill, tm_stM, Am.look, kill_fn F.nokill, ren_fn F.norefs, kill_fn hAs.nokill, ren_fn hAs.norefs]
        · (repeat' (first | exact trivial | refine And.intro ?_ ?_)) <;> (first | rfl | skip)
        · simp [refsT, refsV, F.norefs, hAs.norefs]
        · refine .inl ⟨rfl, ?_⟩
          simp [rowsC_kill]
        · (intro j hj; simp (disch := first | omega | assumption) only [hp_put, hp_mem_ne, hp_kill_ne]; first | exact stM_row rfl hj | (rw [stM_row rfl hj]; rfl))
      · omega
  · obtain rfl : j = A.length := by omega
    rw [List.take_length]
    rw [List.take_length] at hle hrl
    repeat (first | (refine step_ops ?_; (refine m_mov (by conv => lhs; whnf) ?_)) | refine end_ops ?_ | refine seq_ops ?_ | (refine cond_f rfl ?_ ?_; (· first | rfl | assumption | (refine decide_eq_false ?_; first | assumption | omega) | (refine nf ?_; first | assumption | omega) | (simp [*]; done))) | refine AW_seq ?_ | refine AW_ret ?_ | refine norm_then ?_ | refine exit_then ?_ | refine exit_round ?_ | refine AW_exit ?_ | refine exit_block ?_)
    refine ret_mat (r0 := 7) (b := 1000) (by omega) (by omega) (by omega) rfl rfl ?_
    (intro j hj; simp (disch := first | omega | assumption) only [hp_put]; first | exact stM_row rfl hj | (rw [stM_row rfl hj]; rfl))
end Go.Proofs.Ytpohldecllkjbaa
namespace Go.Am
theorem tm_e02 {a b c : AV} {l : List AV} : (enter0 (a :: b :: c :: l)).tm 2 = c := rfl
end Go.Am
namespace Go.Proofs.Ytpohldecllkjbaa
open Go.Am
attribute [local irreducible] AW Outs Weak Lends Lend Sp aops atree aop1 Then Round InBlock Done
attribute [local irreducible] SpH DoneH SpP
theorem fittingWhere_throws {f g : FuncId} {fl gl : List AV} {kk gk n : Nat} {fits : List Int → Nat → Bool} {ok : Value → Prop} (hAs : AsksK Try.prog f fl kk n fits) (A : List (List Int)) (hA : goOn fits n n [] = A) (h0 : 0 < A.length) (hn : n ≤ 12) (h1 : 1 ≤ n) (_hlen : (A.getD 0 []).length ≤ 12)
    (hcall : Callable Try.prog g) (hbears : Bears gl) (hnokill : ∀ r, killL r gl = gl) (hnorefs : ∀ keep, refsL keep gl = true) (hth : SpP Try.prog g (gl.take gk ++ [ints (A.getD 0 [])] ++ gl.drop gk) ok) :
    SpP Try.prog 79 [.i n, .fn f fl kk, .fn g gl gk] ok := by
  have hf := firstFitting_spec hAs (by omega) h1
  rw [hA, List.head?_eq_getElem?] at hf
  unfold srchR at hf
  rw [srchA, decide_eq_true h0] at hf
  clear hA
  refine specP_of Try.func79 rfl cc79 ?_
  unfold ac79
  repeat (first | (refine step_ops ?_; (first | (refine m_mov (by conv => lhs; whnf) ?_) | (refine m_nils ?_))) | refine end_ops ?_ | refine seq_ops ?_ | refine AW_seq ?_)
  refine step_ops ?_
  refine m_callt hf ?_ (allv_ints _) rfl ?_
  · refine lends_cons lend_v (lends_cons (lend_fn ?_) lends_nil)
    rw [hAs.nokill, hAs.nokill]
    exact lends_self hAs.bears _
  repeat (first | (refine step_ops ?_; (first | (refine m_mov (by conv => lhs; whnf) ?_) | (refine m_ext rfl rfl ?_))) | refine end_ops ?_ | refine AW_block ?_)
  refine AW_loop (α := Unit) (fun _ => True) (fun _ => st [(2, .fn g gl gk), (8, .sl 13 1 0 (A.getD 0 []).length), (9, .b true)] [(13, (true, (A.getD 0 []).map AV.i))]) (fun _ => 0) () trivial (weak_st ?_ ?_ ?_ rfl) ?_
  · (repeat' (first | exact trivial | refine And.intro ?_ ?_)) <;> (first | rfl | skip)
    all_goals simp (disch := decide) [tm_put_ne', tm_mem, tm_kill, tm_e02, kill_fn hnokill]
  · (repeat' (first | exact trivial | refine And.intro ?_ ?_)) <;> (first | rfl | skip)
  · simp [refsT, refsV, hnorefs, Am.look]
  intro _ _
  generalize hB : ACode.block 1 _ = B
  repeat (first | (refine step_ops ?_; (refine m_mov (by conv => lhs; whnf) ?_)) | refine end_ops ?_ | refine seq_ops ?_ | (refine cond_t rfl ?_ ?_; (· first | rfl | assumption | (refine decide_eq_true ?_; first | assumption | omega) | (refine nt ?_; first | assumption | omega) | (simp [*]; done))) | refine skip_then ?_ | refine AW_seq ?_)
  subst hB
  refine AW_block (AW_seq (AW_panic 2 (ok := ok) ?_))
  simp only [List.take_succ_cons, List.take_zero]
  repeat (first | (refine step_ops ?_; (refine m_mov (by conv => lhs; whnf) ?_)) | refine end_ops ?_)
  refine ⟨_, rfl, ⟨rfl, .inr ⟨_, _, g, gl, gk, _, rfl, rfl, hcall, hth, ?_⟩⟩, fun v hv => ?_⟩
  · refine asksK_lend hbears rfl rfl (lends_cons (lend_sli (by rfl) rfl) lends_nil)
  · simp only [Then, InBlock, Round]
    exact ⟨v, rfl, hv⟩
end Go.Proofs.Ytpohldecllkjbaa
namespace Go.Am
variable {P : Program} {N : Nat} {s : AS} {Q : Exit → AS → Prop} {w0 : World} {mu : Nat → Option Nat}
abbrev addD (D : List Deferred) (a : Act) : Act := { a with defers := a.defers ++ D }
theorem put_addD (D : List Deferred) (a : Act) (d : Option Nat) (v : Value) : (addD D a).put d v = addD D (a.put d v) := by cases d <;> rfl
theorem eval_addD (D : List Deferred) (a : Act) : (addD D a).eval = a.eval := by
  funext x
  cases x <;> rfl
theorem wpOps_D {ops : Array Oper} {Q0 Q1 : Exit → Act → World → Prop} (D : List Deferred) (hQ : ∀ e a w, Q0 e a w → Q1 e (addD D a) w) : ∀ (is : List Nat) (a : Act) (w : World), wpOps P ops Q0 is a w → wpOps P ops Q1 is (addD D a) w
  | [], a, w, h => hQ _ _ _ h
  | i :: is, a, w, h => by
    rw [wpOps_cons] at h ⊢
    unfold wpOp at h ⊢
    cases ho : ops[i]? with
    | none =>
      rw [ho] at h
      exact wpOps_D D hQ is a w h
    | some o =>
      rw [ho] at h
      simp only at h ⊢
      split at h
      · rename_i hw
        rw [if_pos hw]
        rcases h with h | ⟨h1, a', w', h2⟩
        · refine .inl ?_
          unfold Oper.wp at h ⊢
          rw [eval_addD]
          generalize (execOp a.eval o).run P w = r at h ⊢
          unfold Oper.upon at h ⊢
          split
          · rw [put_addD]; exact wpOps_D D hQ is _ _ h
          · rw [put_addD]; exact wpOps_D D hQ is _ _ h
          · rename_i d w'
            have e : ({ addD D a with defers := d :: (addD D a).defers } : Act) = addD D { a with defers := d :: a.defers } := rfl
            rw [e, put_addD]; exact wpOps_D D hQ is _ _ h
          · refine Calls.mono h fun e w'' hp => ?_
            cases e with
            | returned v => simp only at hp ⊢; rw [put_addD]; exact wpOps_D D hQ is _ _ hp
            | panicked c => exact hQ _ _ _ hp
            | outgrown =>
              obtain ⟨a', w', h2⟩ := hp
              exact ⟨_, _, hQ _ _ _ h2⟩
          · refine Rows.mono h fun v w'' hp => ?_
            rw [put_addD]; exact wpOps_D D hQ is _ _ hp
          · exact hQ _ _ _ h
          · split at h
            all_goals first | exact h.elim | (rename_i x4 x3 x2 x1 x0; first | exact (x4 _ rfl).elim | exact (x4 _ _ rfl).elim | exact (x4 _ _ _ rfl).elim | exact (x3 _ rfl).elim | exact (x3 _ _ rfl).elim | exact (x3 _ _ _ rfl).elim | exact (x2 _ rfl).elim | exact (x2 _ _ rfl).elim | exact (x2 _ _ _ rfl).elim | exact (x1 _ rfl).elim | exact (x1 _ _ rfl).elim | exact (x1 _ _ _ rfl).elim | exact (x0 _ rfl).elim | exact (x0 _ _ rfl).elim | exact (x0 _ _ _ rfl).elim) | (rename_i x4 x3 x2 x1 x0 _; first | exact (x4 _ rfl).elim | exact (x4 _ _ rfl).elim | exact (x4 _ _ _ rfl).elim | exact (x3 _ rfl).elim | exact (x3 _ _ rfl).elim | exact (x3 _ _ _ rfl).elim | exact (x2 _ rfl).elim | exact (x2 _ _ rfl).elim | exact (x2 _ _ _ rfl).elim | exact (x1 _ rfl).elim | exact (x1 _ _ rfl).elim | exact (x1 _ _ _ rfl).elim | exact (x0 _ rfl).elim | exact (x0 _ _ rfl).elim | exact (x0 _ _ _ rfl).elim)
        · refine .inr ⟨?_, _, _, hQ _ _ _ h2⟩
          unfold Oper.asks at h1 ⊢
          rw [eval_addD]
          exact h1
      · rename_i hw
        rw [if_neg hw, put_addD]
        exact wpOps_D D hQ is _ _ h
/-- The rule on code behind a deferred call. -/
def CWD (P : Program) (N : Nat) (D : List Deferred) (code : Code) (s : AS) (Q : Exit → AS → Prop) : Prop :=
  ∀ w0 mu a w, Simw w0 mu N s a w → code.wp P (fun e a' w' => ∃ a0, a' = addD D a0 ∧ After w0 mu N (Q e) a0 w') (addD D a) w
theorem CWD_seq {x y : Code} {D : List Deferred} (h : CWD P N D x s (Then (fun s' => CWD P N D y s' Q) Q)) : CWD P N D (.seq x y) s Q := by
  intro w0 mu a w hS
  refine wp_seq (wp_mono (h w0 mu a w hS) fun e a' w' hA => ?_)
  obtain ⟨a0, rfl, s', h1, h2⟩ := hA
  cases e with
  | normal => exact h1 w0 mu a0 w' h2
  | _ => exact ⟨a0, rfl, s', h1, h2⟩
theorem CWD_ret {D : List Deferred} (h : Q .ret s) : CWD P N D .ret s Q := fun _ _ a _ hS => wp_ret ⟨a, rfl, s, h, hS⟩
theorem region_inv {id : Nat} {ops : Array Oper} {l : List AOper} (hc : ccode P N (.region id ops false) = some (.ops l)) : ops.toList.mapM (cop P N ops) = some l := by
  simp only [ccode] at hc
  rw [Option.bind_eq_some_iff] at hc
  obtain ⟨l', hl, hc⟩ := hc
  simp only [Bool.false_eq_true, if_false, Option.some.injEq, ACode.ops.injEq] at hc
  rw [hl, hc]
theorem CWD_ops {id : Nat} {ops : Array Oper} {l : List AOper} {D : List Deferred} (hc : ccode P N (.region id ops false) = some (.ops l)) (h : aops P true l s (Q .normal)) : CWD P N D (.region id ops false) s Q := by
  intro w0 mu a w hS
  refine wp_region ?_
  have hcomp := comp_of_mapM ops ops.toList 0 l (fun j => by simp) (region_inv hc)
  rw [Array.length_toList, ← List.range_eq_range'] at hcomp
  exact wpOps_D D (Q0 := fun e a w => e = .normal ∧ After w0 mu N (Q .normal) a w) (fun e a w h => ⟨a, rfl, by rw [h.1]; exact h.2⟩) _ a w (aops_sound (fun a w h => ⟨rfl, h⟩) hcomp hS h)
theorem CWD_panic {id : Nat} {ops : Array Oper} {l : List AOper} {D : List Deferred} (k : Nat) {ok : Value → Prop} (hc : ccode P N (.region id ops false) = some (.ops l))
    (h : aops P true (l.take k) s fun s' => ∃ o, l[k]? = some o ∧ APan P o s' ok ∧ ∀ v, ok v → Q (pan v) s') : CWD P N D (.region id ops false) s Q := by
  intro w0 mu a w hS
  refine wp_region ?_
  have hcomp := comp_of_mapM ops ops.toList 0 l (fun j => by simp) (region_inv hc)
  rw [Array.length_toList, ← List.range_eq_range'] at hcomp
  exact wpOps_D D (Q0 := fun e a w => After w0 mu N (Q e) a w) (fun e a w h => ⟨a, rfl, h⟩) _ a w (aops_panic (Q := Q) (fun s' a w v h1 h2 => ⟨s', h2, h1⟩) hcomp k hS h)
/-- A closure that captured two variables is made, and its call is deferred. -/
def doorD (f : FuncId) (p q : Value) : Deferred := { target := .fn (.func f) #[p, q], args := #[] }
theorem wp_defer {id : Nat} {o0 o1 : Oper} {f t x y : Nat} {a : Act} {w : World} {Q1 : Exit → Act → World → Prop} (h0 : o0.op = .makeFunc (.func f) #[] #[.tmp x, .tmp y]) (h0g : o0.guard = none) (h0d : o0.dst = some t) (h1 : o1.op = .defer { callee := .value (.tmp t), args := #[], argTypes := #[] }) (h1g : o1.guard = none) (h1d : o1.dst = none)
    (hS : Simw w0 mu N s a w) (hxt : x ≠ t) (hyt : y ≠ t) (htN : t < N) (ht1 : s.tm t = .any)
    (hK : ∀ a' : Act, Simw w0 mu N s a' w → a'.tmps.getD x undef = a.tmps.getD x undef → a'.tmps.getD y undef = a.tmps.getD y undef → Q1 .normal (addD [doorD f (a.tmps.getD x undef) (a.tmps.getD y undef)] a') w) :
    (Code.region id #[o0, o1] false).wp P Q1 a w := by
  obtain ⟨hf, phi, ro, hS⟩ := hS
  refine wp_region ?_
  show wpOps P _ _ [0, 1] a w
  rw [wpOps_cons]
  unfold wpOp
  simp only [show (#[o0, o1] : Array Oper)[0]? = some o0 from rfl, Region.wanted, h0g, if_true]
  refine .inl ?_
  unfold Oper.wp
  have r0 : (execOp a.eval o0).run P w = .ok (.value (.func (.func f) #[] #[a.tmps.getD x undef, a.tmps.getD y undef])) w := by
    simp [execOp, h0, Instr.makeFunc, Act.eval]
  rw [r0, Oper.upon_value, h0d]
  rw [wpOps_cons]
  unfold wpOp
  simp only [show (#[o0, o1] : Array Oper)[1]? = some o1 from rfl, Region.wanted, h1g, if_true]
  refine .inl ?_
  unfold Oper.wp
  have hlt : t < a.tmps.size := Nat.lt_of_lt_of_le htN hS.slots
  have e1 : (a.put (some t) (.func (.func f) #[] #[a.tmps.getD x undef, a.tmps.getD y undef])).eval (.tmp t) = .func (.func f) #[] #[a.tmps.getD x undef, a.tmps.getD y undef] := by
    simp [Act.eval, Act.put, hlt]
  have r1 : (execOp (a.put (some t) (.func (.func f) #[] #[a.tmps.getD x undef, a.tmps.getD y undef])).eval o1).run P w = .ok (.defer (doorD f (a.tmps.getD x undef) (a.tmps.getD y undef))) w := by
    simp only [execOp, h1, resolve, e1]
    simp [Deferred.ofValue, doorD]
  rw [r1, Oper.upon_defer, h1d]
  simp only [wpOps]
  have e2 : s.put (some t) .any = s := by
    obtain ⟨tm, hp⟩ := s
    simp only [AS.put, AS.mk.injEq, and_true] at ht1 ⊢
    funext k
    by_cases hk : k = t
    · rw [if_pos hk, hk, ht1]
    · rw [if_neg hk]
  have hS2 := hS.put (d := some t) (fun k hk => by cases hk; exact htN) (x := .any) (v := .func (.func f) #[] #[a.tmps.getD x undef, a.tmps.getD y undef]) (by simp [SimV])
  rw [e2] at hS2
  have e3 : ∀ z, z ≠ t → (a.put (some t) (.func (.func f) #[] #[a.tmps.getD x undef, a.tmps.getD y undef])).tmps.getD z undef = a.tmps.getD z undef := by
    intro z hz
    simp [Act.put, Array.getElem?_setIfInBounds_ne (Ne.symm hz)]
  have hfin := hK (a.put (some t) (.func (.func f) #[] #[a.tmps.getD x undef, a.tmps.getD y undef])) ⟨by rw [put_defers]; exact hf, phi, ro, hS2⟩ (e3 x hxt) (e3 y hyt)
  have e4 : addD [doorD f (a.tmps.getD x undef) (a.tmps.getD y undef)] (a.put (some t) (.func (.func f) #[] #[a.tmps.getD x undef, a.tmps.getD y undef])) =
      ({ a.put (some t) (.func (.func f) #[] #[a.tmps.getD x undef, a.tmps.getD y undef]) with defers := doorD f (a.tmps.getD x undef) (a.tmps.getD y undef) :: (a.put (some t) (.func (.func f) #[] #[a.tmps.getD x undef, a.tmps.getD y undef])).defers } : Act) := by
    simp [addD, put_defers, hf]
  rw [e4] at hfin
  exact hfin
/-- Two variables of the call's own, from now on held to be a caller's: their blocks are told. -/
def muD (b c : Nat) : Nat → Option Nat := fun r => if r = pbase then some b else if r = pbase + 1 then some c else none
def hpD (x y : AV) : List (Nat × (Bool × List AV)) := [(pbase, (false, [x])), (pbase + 1, (true, [y]))]
theorem door_enter {a : Act} {w : World} {r1 r2 r3 x y z : Nat} {cs : List AV} {u v : Value} (hmu : ∀ r, mu r = none) (hS : Simw w0 mu N s a w) (h1 : s.tm x = .pt r1 0) (h2 : s.tm y = .pt r2 0) (h3 : s.tm z = .pt r3 0) (g1 : s.hp r1 = some (true, cs)) (g2 : s.hp r2 = some (false, [.v u])) (g3 : s.hp r3 = some (true, [.v v])) (hr : readL cs = true) (hxy : x ≠ y) (hxz : x ≠ z) (hyz : y ≠ z) (hne : r2 ≠ r3) (hn2 : r2 ≠ r1) (hn3 : r3 ≠ r1) :
    ∃ b c, a.tmps.getD y undef = .pointer (some ⟨b, 0, none⟩) ∧ a.tmps.getD z undef = .pointer (some ⟨c, 0, none⟩) ∧ b ≠ c ∧ w0.heap.size ≤ b ∧ w0.heap.size ≤ c ∧ More w0 w ∧
      Simw w (muD b c) N (st [(x, .rp cs), (y, .pt pbase 0), (z, .pt (pbase + 1) 0)] (hpD (.v u) (.v v))) a w := by
  obtain ⟨hf, phi, ro, h⟩ := hS
  have v1 := h.tms x
  have v2 := h.tms y
  have v3 := h.tms z
  rw [h1] at v1
  rw [h2] at v2
  rw [h3] at v3
  simp only [SimV] at v1 v2 v3
  obtain ⟨_, _, b1, p1, e1, cur1, t1, c1⟩ := v1
  obtain ⟨_, _, b2, p2, e2, cur2, t2, c2⟩ := v2
  obtain ⟨_, _, b3, p3, e3, cur3, t3, c3⟩ := v3
  obtain ⟨cur1, t1, c1, k1, n1, m1⟩ := h.cell g1 p1 c1
  obtain ⟨cur2, t2, c2, k2, n2, m2⟩ := h.cell g2 p2 c2
  obtain ⟨cur3, t3, c3, k3, n3, m3⟩ := h.cell g3 p3 c3
  have hmine : ∀ {r b : Nat}, (r < pbase ∧ Mine w0 mu b ∨ pbase ≤ r ∧ mu r = some b) → w0.heap.size ≤ b := by
    rintro r b (⟨_, h1 | ⟨r', _, h1⟩⟩ | ⟨_, h1⟩)
    · exact h1
    · rw [hmu] at h1; cases h1
    · rw [hmu] at h1; cases h1
  have hb12 : b1 ≠ b2 := fun e => hn2 (h.inj r2 r1 b2 (by rw [g2]; rfl) (by rw [g1]; rfl) p2 (e ▸ p1))
  have hb13 : b1 ≠ b3 := fun e => hn3 (h.inj r3 r1 b3 (by rw [g3]; rfl) (by rw [g1]; rfl) p3 (e ▸ p1))
  have hb23 : b2 ≠ b3 := fun e => hne (h.inj r2 r3 b2 (by rw [g2]; rfl) (by rw [g3]; rfl) p2 (e ▸ p3))
  refine ⟨b2, b3, e2, e3, hb23, hmine m2, hmine m3, ⟨h.os, h.tape, h.output, h.size, fun b hb => h.kept b hb fun r hr => by rw [hmu] at hr; cases hr⟩, hf, muD b2 b3, fun q => q < w.heap.size ∧ q ≠ b2 ∧ q ≠ b3, ?_⟩
  have hm0 : muD b2 b3 pbase = some b2 := by simp [muD]
  have hm1 : muD b2 b3 (pbase + 1) = some b3 := by simp [muD]
  have hmm : ∀ r b, muD b2 b3 r = some b → (r = pbase ∧ b = b2) ∨ (r = pbase + 1 ∧ b = b3) := by
    intro r b hr
    unfold muD at hr
    split at hr
    · cases hr; exact .inl ⟨‹_›, rfl⟩
    · split at hr
      · cases hr; exact .inr ⟨‹_›, rfl⟩
      · cases hr
  have hl0 : (st [(x, .rp cs), (y, .pt pbase 0), (z, .pt (pbase + 1) 0)] (hpD (.v u) (.v v))).hp pbase = some (false, [.v u]) := by simp [st, hpD, look]
  have hl1 : (st [(x, .rp cs), (y, .pt pbase 0), (z, .pt (pbase + 1) 0)] (hpD (.v u) (.v v))).hp (pbase + 1) = some (true, [.v v]) := by simp [st, hpD, look]
  have hll : ∀ r c, (st [(x, .rp cs), (y, .pt pbase 0), (z, .pt (pbase + 1) 0)] (hpD (.v u) (.v v))).hp r = some c → (r = pbase ∧ c = (false, [.v u])) ∨ (r = pbase + 1 ∧ c = (true, [.v v])) := by
    intro r c hr
    simp only [st, hpD, look] at hr
    split at hr
    · cases hr; exact .inl ⟨by simp_all, rfl⟩
    · split at hr
      · cases hr; exact .inr ⟨by simp_all, rfl⟩
      · cases hr
  have hex : ∀ {fl : Bool} {x : Value} {cur : Array Value} {C D : Ctx}, SimR (fl, [.v x]) C cur.toList → SimR (fl, [.v x]) D cur.toList := by
    intro fl x cur C D hs
    unfold SimR at hs ⊢
    cases hl : cur.toList with
    | nil => rw [hl] at hs; simp [SimL] at hs
    | cons q qs => rw [hl] at hs; simpa [SimL, SimV] using hs
  refine ⟨rfl, rfl, rfl, Nat.le_refl _, fun _ _ _ => rfl, fun b cur e f hb => ⟨cur, hb, rfl⟩, h.npb, ⟨h.goodW, fun r b hr => ?_⟩, fun b hb => hb.1, fun r r' b q1 q2 q3 q4 => ?_, fun r c hr => ?_, fun t => ?_, h.slots⟩
  · rcases hmm r b hr with ⟨_, rfl⟩ | ⟨_, rfl⟩
    · exact h.regGood g2 p2
    · exact h.regGood g3 p3
  · rcases hmm r b q3 with ⟨rfl, rfl⟩ | ⟨rfl, rfl⟩ <;> rcases hmm r' _ q4 with ⟨rfl, e⟩ | ⟨rfl, e⟩
    · rfl
    · exact absurd e hb23
    · exact absurd e.symm hb23
    · rfl
  · rcases hll r c hr with ⟨rfl, rfl⟩ | ⟨rfl, rfl⟩
    · exact .inr (.inl ⟨b2, cur2, t2, hm0, c2, fun e => e.2.1 rfl, .inr ⟨Nat.le_refl _, hm0⟩, hex k2⟩)
    · exact .inr (.inl ⟨b3, cur3, t3, hm1, c3, fun e => e.2.2 rfl, .inr ⟨Nat.le_succ _, hm1⟩, hex k3⟩)
  · by_cases htx : t = x
    · subst htx
      have : (st [(t, .rp cs), (y, .pt pbase 0), (z, .pt (pbase + 1) 0)] (hpD (.v u) (.v v))).tm t = .rp cs := by simp [st, look]
      rw [this]
      simp only [SimV]
      refine ⟨b1, 0, cur1, t1, (0, 0), e1, c1, ⟨lt_of_get c1, hb12, hb13⟩, ?_⟩
      rw [List.drop_zero]
      simp only [SimR, if_true] at k1
      exact SimL.read cs (ctx w0 w ro phi s).out _ _ hr rfl (fun b hb => ⟨h.rob b hb, fun e => n2 (e ▸ hb), fun e => n3 (e ▸ hb)⟩) k1
    by_cases hty : t = y
    · subst hty
      have : (st [(x, .rp cs), (t, .pt pbase 0), (z, .pt (pbase + 1) 0)] (hpD (.v u) (.v v))).tm t = .pt pbase 0 := by simp [st, look, htx]
      rw [this]
      simp only [SimV]
      exact ⟨rfl, by simp only [ctx]; rw [hl0]; rfl, b2, hm0, e2, cur2, t2, c2⟩
    by_cases htz : t = z
    · subst htz
      have : (st [(x, .rp cs), (y, .pt pbase 0), (t, .pt (pbase + 1) 0)] (hpD (.v u) (.v v))).tm t = .pt (pbase + 1) 0 := by simp [st, look, htx, hty]
      rw [this]
      simp only [SimV]
      exact ⟨rfl, by simp only [ctx]; rw [hl1]; rfl, b3, hm1, e3, cur3, t3, c3⟩
    have : (st [(x, .rp cs), (y, .pt pbase 0), (z, .pt (pbase + 1) 0)] (hpD (.v u) (.v v))).tm t = .any := by simp [st, look, htx, hty, htz]
    rw [this]
    simp [SimV]
/-- A result that lies in a single cell. -/
theorem rv1_run {w w' : World} {tm : Array Value} {phi : Nat → Option Nat} {ro : Nat → Prop} (hS : Sim w mu N s tm w' phi ro) {a r : Nat} {t : TypeId} {fl : Bool} {cs : List AV} {x : AV} (ht : shapeT P t = some none) (h1 : s.tm a = .pt r 0) (h2 : s.hp r = some (fl, cs)) (h3 : cs[0]? = some x) :
    ∃ y, (resOne tm (.cell a t)).run P w' = .ok y w' ∧ SimV x (ctx w w' ro phi s) y := by
  have hS' : Sim w mu N s ({ tmps := tm, defers := [] } : Act).tmps w' phi ro := hS
  obtain ⟨d, hd, hd1, hd2⟩ := shapeT_none ht
  have hv := hS.tms a
  rw [h1] at hv
  simp only [SimV] at hv
  obtain ⟨_, _, b, hb, hy, cur0, e0, hcell0⟩ := hv
  obtain ⟨cur, e, hcell, hsim, _⟩ := hS'.cell h2 hb hcell0
  obtain ⟨y, hy1, hy2⟩ := hsim.get h3
  refine ⟨y, ?_, hy2⟩
  have hrun := run_load_one (P := P) hd hd1 hd2 hcell (off := 0) (by simpa using hy1)
  have hld : (loadVar t ⟨b, 0, none⟩).run P w' = .ok y w' := by
    simpa [Instr.loadAt, Instr.sureAddr] using hrun
  simp [resOne, hy, asAddr, hld]
theorem run_two {fn : Func} {tm : Array Value} {w : World} {r1 r2 : ResultVar} {y1 y2 : Value} (hr : fn.results = #[r1, r2]) (h1 : (resOne tm r1).run P w = .ok y1 w) (h2 : (resOne tm r2).run P w = .ok y2 w) : (results fn tm).run P w = .ok (.tuple #[y1, y2]) w := by
  have hr0 : results fn tm = (do let vs ← fn.results.mapM (resOne tm); pure (if h : vs.size = 1 then vs[0] else .tuple vs)) := rfl
  have hl : (fn.results.toList.mapM (m := Sem) (resOne tm)).run P w = .ok [y1, y2] w := by
    rw [hr]
    simp only [List.mapM_cons, List.mapM_nil, Sem.run_bind, h1, h2, Result.andThen_ok, Sem.run_pure]
  have hm : (fn.results.mapM (m := Sem) (resOne tm)).run P w = .ok #[y1, y2] w := by
    rw [Array.mapM_eq_mapM_toList, Sem.run_map, hl]
    rfl
  rw [hr0, Sem.run_bind, hm]
  simp
/-- What is handed out where a call ends. -/
theorem finD {w w' : World} {tm : Array Value} {phi : Nat → Option Nat} {ro : Nat → Prop} {hout : Hp} {res : AV} (w1 : World) (hS : Sim w mu N s tm w' phi ro) (hst : Static (fun _ => none) res hout) (hmu : ∀ r b, mu r = some b → r < gvb) (g : Nat → Nat)
    (hhas : ∀ r c, hout r = some c → ∃ c0, s.hp (g r) = some c0 ∧ (c0 = renR g c ∨ (c.2 = [] ∧ c0.2 = []))) (hfresh : ∀ r, (hout r).isSome = true → g r < pbase) (hgi : ∀ r r', (hout r).isSome = true → (hout r').isSome = true → g r = g r' → r = r') :
    Inj hout (fun r => phi (g r)) ∧ (∀ r b, (hout r).isSome = true → phi (g r) = some b → w.heap.size ≤ b) ∧ Regs (ctxX w1 w' (fun r => phi (g r)) hout) hout ∧
      ∀ v, SimV (renV g res) (ctx w w' ro phi s) v → SimV res (ctxX w1 w' (fun r => phi (g r)) hout) v := by
  have hlv : ∀ r, (hout r).isSome = true → (s.hp (g r)).isSome = true := by
    intro r hr
    obtain ⟨c, hc⟩ := Option.isSome_iff_exists.1 hr
    obtain ⟨c0, h1, _⟩ := hhas r c hc
    rw [h1]; rfl
  have hmine : ∀ {b : Nat}, Mine w mu b → w.heap.size ≤ b := by
    rintro b (h1 | ⟨r, h1, h2⟩)
    · exact h1
    · have := hmu r b h2; omega
  refine ⟨fun r r' b h1 h2 h3 h4 => hgi r r' h1 h2 (hS.inj _ _ b (hlv r h1) (hlv r' h2) h3 h4), fun r b h1 h3 => ?_, fun r c hc => ?_, fun v hv => ?_⟩
  · obtain ⟨c, hc⟩ := Option.isSome_iff_exists.1 h1
    have hlt := hfresh r h1
    obtain ⟨c0, hh0, _⟩ := hhas r c hc
    rcases hS.liv _ _ hh0 with ⟨k1, _⟩ | ⟨b', _, _, k1, _, _, k4, _⟩ | ⟨b', _, _, k1, _, _, _, k4⟩
    · rw [k1] at h3; cases h3
    · rw [k1] at h3; cases h3
      rcases k4 with k4 | k4
      · exact hmine k4.2
      · omega
    · rw [k1] at h3; cases h3
      rcases k4 with k4 | k4
      · exact hmine k4.2
      · omega
  · obtain ⟨ho, hrf⟩ := hst.own r c hc
    obtain ⟨c0, hh0, hc0⟩ := hhas r c hc
    rcases hS.liv _ _ hh0 with ⟨k1, k2, _⟩ | ⟨b, cur, e', k1, k2, _, _, k5⟩ | ⟨b, o, h0, k1, k2, k3, _⟩
    · refine .inl ⟨k1, ?_⟩
      rcases hc0 with rfl | hc0
      · obtain ⟨fl, cs⟩ := c
        simp only [renR, renL_map] at k2
        exact List.map_eq_nil_iff.1 k2
      · exact hc0.1
    · rcases hc0 with rfl | hc0
      case inr => exact .inr (.inl ⟨b, cur, e', k1, k2, by unfold SimR; rw [hc0.1]; simp [SimL]⟩)
      refine .inr (.inl ?_)
      exact ⟨b, cur, e', k1, k2, simR_in (q := false) (C := ctxX w1 w' (fun r => phi (g r)) hout) (D := ctx w w' ro phi s) rfl (fun e => by cases e) (fun _ => rfl) (fun _ r _ => rfl) ho hrf k5⟩
    · rcases hc0 with rfl | hc0
      · exact .inr (.inr ⟨b, o, renR_ob h0, k1, k2, k3⟩)
      · rw [h0] at hc0; simp at hc0
  · exact simV_in false g (ctxX w1 w' (fun r => phi (g r)) hout) (ctx w w' ro phi s) rfl (fun e => by cases e) (fun _ => rfl) (fun _ r _ => rfl) res _ hst.res.1 hst.res.2 hv
end Go.Am
namespace Go.Am
theorem readL_plain : ∀ {l : List AV}, l.all plainV = true → readL l = true
  | [], _ => rfl
  | x :: l, h => by
    rw [List.all_cons, Bool.and_eq_true] at h
    have hl := readL_plain h.2
    cases x <;> first | (simp [plainV] at h; done) | (simp only [readL, readV, hl, Bool.and_self])
end Go.Am
namespace Go.Proofs.Ytpohldecllkjbaa
open Go.Am
attribute [local irreducible] AW Outs Weak Lends Lend Sp aops atree aop1 Then Round InBlock Done
attribute [local irreducible] SpM DoneM SpH DoneH SpP
theorem solve2_spec (M : List Int) (y : Nat) (hM : M.length ≤ 1048576) : Sp Try.prog 75 [ints M, .i y] (.b (newN M y)) := by
  unfold newN
  refine spec_of Try.func75 rfl cc75 rfl ?_
  unfold ac75
  repeat (first | (refine step_ops ?_; (first | (refine m_mov (by conv => lhs; whnf) ?_) | (refine m_not rfl ?_))) | refine end_ops ?_ | refine seq_ops ?_ | refine AW_ops ?_ | refine AW_seq ?_ | refine AW_ret ?_ | refine ret_done ?_ | refine norm_then ?_ | refine ret_then ?_ | refine exit_then ?_)
  (refine step_ops ?_); (apply m_call (slicesContains_spec M y hM)); (· repeat (first | exact lends_nil | (refine lends_cons ?_ ?_; (· (first | exact lend_v | (refine lend_roM rfl; done) | (refine lend_mat rfl ?_; intro j hj; simp (disch := first | omega | assumption) only [hp_put, hp_mem_ne, hp_kill_ne]; first | exact stM_row rfl hj | (rw [stM_row rfl hj]; rfl)) | (refine lend_ints ?_; first | rfl | omega) | (refine lend_sli (by rfl) ?_; first | rfl | omega | (simp; done)) | (refine lend_pln rfl; done) | (refine lend_plns rfl rfl; done) | (refine lend_txr rfl; done) | (refine lend_txs rfl rfl; done) | exact lend_any | (refine lend_agg ?_; first | rfl | assumption | (simp [plainV]; done)))))))
  repeat (first | (refine step_ops ?_; (first | (refine m_mov (by conv => lhs; whnf) ?_) | (refine m_not rfl ?_))) | refine end_ops ?_ | refine seq_ops ?_ | refine AW_ops ?_ | refine AW_seq ?_ | refine AW_ret ?_ | refine ret_done ?_ | refine norm_then ?_ | refine ret_then ?_ | refine exit_then ?_)
  exact outs_b rfl
theorem leftAsks (n : Nat) (hn : n ≤ 12) : AsksK Try.prog 75 [] 0 n newN where
  call := ⟨_, Try.func75, by rfl, by rfl⟩
  bears := fun hp x hx => by cases hx
  norefs := fun _ => rfl
  nokill := fun _ => rfl
  spec := fun M y h1 _ _ => solve2_spec M y (by omega)
/-- What the closure that asks all clues bears. -/
abbrev pzR (n : Nat) (C : List Clu) : List AV := [.rp [.i n, .ro false 3 (cls C) C.length]]
theorem solve3_spec (n : Nat) (C : List Clu) (M : List Int) (hC : C.length ≤ 6) (h : IsEx M) (hn : M.length = n) (hcl : ∀ c ∈ C, IsClu n c) : Sp Try.prog 77 ([ints M] ++ pzR n C) (.b (allFit C M)) := by
  have hL : M.length ≤ 1048576 := by have := h.2.1; omega
  have hf := fitsAll_spec n C M hC h hn hcl
  unfold allFit
  show Sp _ _ [ints M, .rp [.i n, .ro false 3 (cls C) C.length]] _
  refine spec_of Try.func77 rfl cc77 rfl ?_
  unfold ac77
  repeat (first | (refine step_ops ?_; (first | (refine m_mov (by conv => lhs; whnf) ?_) | (refine m_ld_rpi rfl ?_ ?_; (· omega)) | (refine m_ld_pti rfl (by rfl) ?_ ?_; (· first | omega | (simp; omega))) | (apply m_ld_ptb; (· rfl); (· rfl); (· assumption)) | (apply m_ld_rp; (· rfl); (· rfl)) | (apply m_ld_pt; (· rfl); (· rfl); (· rfl)) | (refine m_fa rfl ?_) | (refine m_fa_rp rfl ?_))) | refine end_ops ?_ | refine seq_ops ?_ | refine AW_ops ?_ | refine AW_seq ?_ | refine AW_ret ?_ | refine ret_done ?_ | refine norm_then ?_ | refine ret_then ?_ | refine exit_then ?_)
  refine step_ops ?_
  refine m_call hf (lends_cons lend_cls (lends_cons (lend_ints ?_) lends_nil)) ?_
  · rfl
  repeat (first | (refine step_ops ?_; (first | (refine m_mov (by conv => lhs; whnf) ?_) | (refine m_ld_rpi rfl ?_ ?_; (· omega)) | (refine m_ld_pti rfl (by rfl) ?_ ?_; (· first | omega | (simp; omega))) | (apply m_ld_ptb; (· rfl); (· rfl); (· assumption)) | (apply m_ld_rp; (· rfl); (· rfl)) | (apply m_ld_pt; (· rfl); (· rfl); (· rfl)) | (refine m_fa rfl ?_) | (refine m_fa_rp rfl ?_))) | refine end_ops ?_ | refine seq_ops ?_ | refine AW_ops ?_ | refine AW_seq ?_ | refine AW_ret ?_ | refine ret_done ?_ | refine norm_then ?_ | refine ret_then ?_ | refine exit_then ?_)
  exact outs_b rfl
theorem solve3_throws (n : Nat) (C : List Clu) (M : List Int) (hC : C.length ≤ 6) (h : IsEx M) (hn : M.length = n) (hbad : ∃ c ∈ C, ¬ IsClu n c) : SpP Try.prog 77 ([ints M] ++ pzR n C) NoV := by
  have hth := fitsAll_throws n C M hC h hn hbad
  show SpP _ _ [ints M, .rp [.i n, .ro false 3 (cls C) C.length]] _
  refine specP_of Try.func77 rfl cc77 ?_
  unfold ac77
  refine seq_ops ?_
  ((first | (refine step_ops ?_; (first | (refine m_mov (by conv => lhs; whnf) ?_) | (refine m_ld_rpi rfl ?_ ?_; (· omega)) | (refine m_ld_pti rfl (by rfl) ?_ ?_; (· first | omega | (simp; omega))) | (apply m_ld_ptb; (· rfl); (· rfl); (· assumption)) | (apply m_ld_rp; (· rfl); (· rfl)) | (apply m_ld_pt; (· rfl); (· rfl); (· rfl)) | (refine m_fa rfl ?_) | (refine m_fa_rp rfl ?_))) | refine end_ops ?_ | refine seq_ops ?_ | refine AW_ops ?_ | refine AW_seq ?_ | refine AW_ret ?_ | refine ret_done ?_ | refine norm_then ?_ | refine ret_then ?_ | refine exit_then ?_))
  refine end_ops ?_
  refine AW_seq (AW_panic 3 (ok := NoV) ?_)
  simp only [List.take_succ_cons, List.take_zero]
  repeat (first | (refine step_ops ?_; (first | (refine m_mov (by conv => lhs; whnf) ?_) | (refine m_ld_rpi rfl ?_ ?_; (· omega)) | (refine m_ld_pti rfl (by rfl) ?_ ?_; (· first | omega | (simp; omega))) | (apply m_ld_ptb; (· rfl); (· rfl); (· assumption)) | (apply m_ld_rp; (· rfl); (· rfl)) | (apply m_ld_pt; (· rfl); (· rfl); (· rfl)) | (refine m_fa rfl ?_) | (refine m_fa_rp rfl ?_))) | refine end_ops ?_ | refine seq_ops ?_ | refine AW_ops ?_ | refine AW_seq ?_ | refine AW_ret ?_ | refine ret_done ?_ | refine norm_then ?_ | refine ret_then ?_ | refine exit_then ?_)
  refine ⟨_, rfl, ⟨rfl, .inl ⟨_, _, _, rfl, hth, ?_⟩⟩, fun v hv => ?_⟩
  · refine lends_cons lend_cls (lends_cons (lend_ints ?_) lends_nil)
    rfl
  · simp only [Then]
    exact ⟨v, rfl, hv⟩
theorem allN_mem {n : Nat} (h1 : 1 ≤ n) (h5 : n ≤ 5) {x : List Int} (hx : x ∈ goOn newN n n []) : IsEx x ∧ x.length = n ∧ ∀ y ∈ x, 0 ≤ y ∧ y < (n : Int) := by
  obtain ⟨k1, k2, k3⟩ := goOn_pm newN_new n [] List.nodup_nil (by simp) x hx
  simp only [List.length_nil, Nat.zero_add] at k3
  exact ⟨ex_of h1 h5 k3 k1 k2, k3, k2⟩
theorem allN_len {n : Nat} (h5 : n ≤ 5) : (goOn newN n n []).length ≤ 120 := by
  have h1 := goOn_fac (n := n) newN_new n [] (by simp) List.nodup_nil (by simp)
  have h3 : ∀ k < 6, facR k ≤ 120 := by decide
  have := h3 n (by omega)
  omega
theorem allN_pos : ∀ n < 6, 0 < (goOn newN n n []).length := by decide +kernel
theorem allKeeps (n : Nat) (C : List Clu) (h1 : 1 ≤ n) (h5 : n ≤ 5) (hC : C.length ≤ 6) (hcl : ∀ c ∈ C, IsClu n c) : KeepsX Try.prog 77 (pzR n C) 0 (goOn newN n n []) (allFit C) where
  call := ⟨_, Try.func77, by rfl, by rfl⟩
  bears := bears_read (by
    show readL [.rp [.i n, .ro false 3 (cls C) C.length]] = true
    simp [readL, readV, readL_plain (cls_plain C)])
  norefs := fun _ => rfl
  nokill := fun _ => rfl
  spec := fun M hM => by
    obtain ⟨k1, k2, _⟩ := allN_mem h1 h5 hM
    exact solve3_spec n C M hC k1 k2 hcl
/-- All solutions, asx the code finds them. -/
theorem findAll_spec (n : Nat) (C : List Clu) (h1 : 1 ≤ n) (h5 : n ≤ 5) (hC : C.length ≤ 6) (hcl : ∀ c ∈ C, IsClu n c) :
    SpH Try.prog 79 [.i n, .fn 75 [] 0, .fn 77 (pzR n C) 0] (fun _ => none) (.sl nbase 1 0 (sol n C).length) (matO (sol n C)) := by
  have hl := allN_len h5
  exact fittingWhere_spec (leftAsks n (by omega)) _ rfl (allKeeps n C h1 h5 hC hcl) (by omega) h1 (by omega) fun x hx => (allN_mem h1 h5 hx).2
theorem findAll_throws (n : Nat) (C : List Clu) (h1 : 1 ≤ n) (h5 : n ≤ 5) (hC : C.length ≤ 6) (hbad : ∃ c ∈ C, ¬ IsClu n c) :
    SpP Try.prog 79 [.i n, .fn 75 [] 0, .fn 77 (pzR n C) 0] NoV := by
  have h0 := allN_pos n (by omega)
  have hm : (goOn newN n n []).getD 0 [] ∈ goOn newN n n [] := by
    rw [List.getD_eq_getElem?_getD, List.getElem?_eq_getElem h0]
    exact List.getElem_mem h0
  obtain ⟨k1, k2, _⟩ := allN_mem h1 h5 hm
  exact fittingWhere_throws (leftAsks n (by omega)) _ rfl h0 (by omega) h1 (by omega) ⟨_, Try.func77, by rfl, by rfl⟩ (bears_read (by
    show readL [.rp [.i n, .ro false 3 (cls C) C.length]] = true
    simp [readL, readV, readL_plain (cls_plain C)])) (fun _ => rfl) (fun _ => rfl) (solve3_throws n C _ hC k1 k2 hbad)
end Go.Proofs.Ytpohldecllkjbaa
