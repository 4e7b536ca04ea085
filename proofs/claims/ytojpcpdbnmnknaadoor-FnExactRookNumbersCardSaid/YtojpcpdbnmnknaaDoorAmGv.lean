/- The abstract machine: regions that are given to a call for good. -/
import Derived.Test.YtojpcpdbnmnknaaDoorAmZ
namespace Go.Am
variable {P : Program} {own : Bool} {N : Nat} {s : AS} {K : AS → Prop} {d : Option Nat}

mutual
theorem dropV_one (r : Nat) : ∀ x : AV, dropV (fun q => q == r) x = killV r x
  | .any => rfl
  | .v _ => rfl
  | .ro _ _ _ _ => rfl
  | .rp _ => rfl
  | .sl q _ _ _ => by simp [dropV, killV]
  | .pt q _ => by simp [dropV, killV]
  | .mp q => by simp [dropV, killV]
  | .itr q => by simp [dropV, killV]
  | .ob _ => rfl
  | .fn _ l _ => by simp only [dropV, killV, dropL_one r l]
  | .rmp _ _ _ => rfl
  | .fu _ _ _ => rfl
  | .mit q m _ _ _ => by cases m <;> simp [dropV, killV]
  | .agg l => by simp only [dropV, killV, dropL_one r l]
  | .tup l => by simp only [dropV, killV, dropL_one r l]
theorem dropL_one (r : Nat) : ∀ l : List AV, dropL (fun q => q == r) l = killL r l
  | [] => rfl
  | a :: l => by simp only [dropL, killL, dropV_one r a, dropL_one r l]
end
theorem drop_one (s : AS) (r : Nat) : s.drop (fun q => q == r) = s.kill r := by
  have hR : dropR (fun q => q == r) = killR r := by
    funext c
    obtain ⟨f, cs⟩ := c
    cases f <;> simp [dropR, killR, dropL_one]
  simp only [AS.drop, AS.kill, AS.mk.injEq]
  refine ⟨funext fun t => dropV_one r _, funext fun q => ?_⟩
  by_cases h : q = r <;> simp [h, hR]

/-- The end of a function that is given regions. -/
def DoneT (ts : List Nat) (res : AV) (hin hout : Hp) : Exit → AS → Prop
  | .normal, s | .ret, s => ∃ g : Nat → Nat, resAV s ts = renV g res ∧ (∀ r c, hout r = some c → ∃ c0, s.hp (g r) = some c0 ∧ (c0 = renR g c ∨ (c.2 = [] ∧ c0.2 = []))) ∧ (∀ r, (hin r).isSome = true → r < gvb → g r = r ∧ (hout r).isSome = true) ∧
      (∀ r, (hout r).isSome = true → hin r = none → g r < pbase) ∧ (∀ r r', (hout r).isSome = true → (hout r').isSome = true → g r = g r' → r = r') ∧ ∀ r, (hout r).isSome = true → r < gvb
  | _, _ => False
theorem specT_of {f : FuncId} {fn : Func} {code : Code} {ac : ACode} {ts : List Nat} {as : List AV} {hin hout : Hp} {res : AV} (hf : P.funcs[f]? = some fn) (hb : fn.body = some code) (hc : ccode P (min fn.ntmps pbase) code = some ac) (hr : resTmps fn = some ts)
    (hst : Static hin res hout) (s0 : AS) (hw : Weak (enterH as hin) s0) (h : AW P (min fn.ntmps pbase) ac s0 (DoneT ts res hin hout)) : SpG P f as hin res hout := by
  intro w vs phi hg hgb hinj hregs hs hl
  refine calls_of_wp hf hb (wp_mono (AW_weak hw h code hc w _ _ w ⟨rfl, _, _, enterH_sim hg hgb hst.pb hinj hregs hs hl⟩) fun e a' w' hA => ?_)
  obtain ⟨s', h1, hf', phi', ro, hS⟩ := hA
  have fin : (∃ g : Nat → Nat, resAV s' ts = renV g res ∧ (∀ r c, hout r = some c → ∃ c0, s'.hp (g r) = some c0 ∧ (c0 = renR g c ∨ (c.2 = [] ∧ c0.2 = []))) ∧ (∀ r, (hin r).isSome = true → r < gvb → g r = r ∧ (hout r).isSome = true) ∧
      (∀ r, (hout r).isSome = true → hin r = none → g r < pbase) ∧ (∀ r r', (hout r).isSome = true → (hout r').isSome = true → g r = g r' → r = r') ∧ ∀ r, (hout r).isSome = true → r < gvb) → a'.defers = [] ∧ ∃ v, (results fn a'.tmps).run P w' = .ok v w' ∧
      ∃ v' phi', Ending.returned v = .returned v' ∧ w'.os = w.os ∧ w'.tape = w.tape ∧ w'.output = w.output ∧ w.heap.size ≤ w'.heap.size ∧
      (∀ r, (hin r).isSome = true → r < gvb → phi' r = phi r) ∧ (∀ b, b < w.heap.size → (∀ r, (hin r).isSome = true → phi r ≠ some b) → w'.heap[b]? = w.heap[b]?) ∧
      (∀ (b : Nat) (cur : Array Value) (e : TypeId) (f : Nat × Nat), w.heap[b]? = some (.cells cur e f) → ∃ cur' : Array Value, w'.heap[b]? = some (.cells cur' e f) ∧ cur'.size = cur.size) ∧
      Inj hout phi' ∧ (∀ r b, (hout r).isSome = true → hin r = none → phi' r = some b → w.heap.size ≤ b ∨ ∃ r', gvb ≤ r' ∧ (hin r').isSome = true ∧ phi r' = some b) ∧ Regs (ctxX w w' phi' hout) hout ∧ SimV res (ctxX w w' phi' hout) v' := by
    rintro ⟨g, hres, hhas, hstay, hfresh, hgi, hltg⟩
    have hlv : ∀ r, (hout r).isSome = true → (s'.hp (g r)).isSome = true := by
      intro r hr
      obtain ⟨c, hc⟩ := Option.isSome_iff_exists.1 hr
      obtain ⟨c0, h1, _⟩ := hhas r c hc
      rw [h1]; rfl
    have hvt : SimV (resAV s' ts) (ctx w w' ro phi' s') (resVal a'.tmps ts) := simv_res hS ts
    rw [hres] at hvt
    refine ⟨hf', _, run_results hr a'.tmps w' P, _, fun r => phi' (g r), rfl, hS.os, hS.tape, hS.output, hS.size, fun r hr hlt => ?_, fun b hb hne => hS.kept b hb fun r hr => ?_, hS.shp, ?_, ?_, ?_, ?_⟩
    · obtain ⟨e1, e2⟩ := hstay r hr hlt
      obtain ⟨c, hc⟩ := Option.isSome_iff_exists.1 e2
      obtain ⟨c0, hh, _⟩ := hhas r c hc
      rw [e1] at hh
      show phi' (g r) = phi r
      rw [e1]
      rcases hS.liv r _ hh with ⟨k1, _, k3⟩ | ⟨b, cur, e', k1, _, _, k4, _⟩ | ⟨b, o, _, k1, _, _, _, k4⟩
      case inr.inr =>
        rcases k4 with k4 | k4
        · have := hst.pb r hr; omega
        · have k5 := k4.2
          simp only [hr, if_true] at k5
          rw [k1, k5]
      · have k5 := k3 (hst.pb r hr)
        simp only [hr, if_true] at k5
        rw [k1, k5]
      · rcases k4 with k4 | k4
        · have := hst.pb r hr; omega
        · have k5 := k4.2
          simp only [hr, if_true] at k5
          rw [k1, k5]
    · split at hr
      · rename_i hrs; exact hne r hrs hr
      · cases hr
    · intro r r' b h1 h2 h3 h4
      exact hgi r r' h1 h2 (hS.inj _ _ b (hlv r h1) (hlv r' h2) h3 h4)
    · intro r b h1 h2 h3
      obtain ⟨c, hc⟩ := Option.isSome_iff_exists.1 h1
      have hlt := hfresh r h1 h2
      obtain ⟨c0, hh0, _⟩ := hhas r c hc
      have key : Mine w (fun r => if (hin r).isSome = true then phi r else none) b → w.heap.size ≤ b ∨ ∃ r', gvb ≤ r' ∧ (hin r').isSome = true ∧ phi r' = some b := by
        rintro (k | ⟨r', k1, k2⟩)
        · exact .inl k
        · by_cases hi : (hin r').isSome = true
          · simp only [hi, if_true] at k2
            exact .inr ⟨r', k1, hi, k2⟩
          · simp only [hi, Bool.false_eq_true, if_false] at k2
            cases k2
      rcases hS.liv _ _ hh0 with ⟨k1, _⟩ | ⟨b', _, _, k1, _, _, k4, _⟩ | ⟨b', _, _, k1, _, _, _, k4⟩
      · have h3' : phi' (g r) = some b := h3
        rw [k1] at h3'; cases h3'
      case inr.inr =>
        have h3' : phi' (g r) = some b := h3
        rw [k1] at h3'; cases h3'
        rcases k4 with k4 | k4
        · exact key k4.2
        · omega
      · have h3' : phi' (g r) = some b := h3
        rw [k1] at h3'; cases h3'
        rcases k4 with k4 | k4
        · exact key k4.2
        · omega
    · intro r c hc
      obtain ⟨ho, hrf⟩ := hst.own r c hc
      obtain ⟨c0, hh0, hc0⟩ := hhas r c hc
      rcases hS.liv _ _ hh0 with ⟨k1, k2, _⟩ | ⟨b, cur, e', k1, k2, _, _, k5⟩ | ⟨b, o, h0, k1, k2, k3, _⟩
      case inr.inr =>
        rcases hc0 with rfl | hc0
        · exact .inr (.inr ⟨b, o, renR_ob h0, k1, k2, k3⟩)
        · rw [h0] at hc0; simp at hc0
      · refine .inl ⟨k1, ?_⟩
        rcases hc0 with rfl | hc0
        · obtain ⟨fl, cs⟩ := c
          simp only [renR, renL_map] at k2
          exact List.map_eq_nil_iff.1 k2
        · exact hc0.1
      · rcases hc0 with rfl | hc0
        case inr => exact .inr (.inl ⟨b, cur, e', k1, k2, by unfold SimR; rw [hc0.1]; simp [SimL]⟩)
        refine .inr (.inl ?_)
        exact ⟨b, cur, e', k1, k2, simR_in (q := false) (C := ctxX w w' (fun r => phi' (g r)) hout) (D := ctx w w' ro phi' s') rfl (fun e => by cases e) (fun _ => rfl) (fun _ r _ => rfl) ho hrf k5⟩
    · exact simV_in false g (ctxX w w' (fun r => phi' (g r)) hout) (ctx w w' ro phi' s') rfl (fun e => by cases e) (fun _ => rfl) (fun _ r _ => rfl) res _ hst.res.1 hst.res.2 hvt
  cases e with
  | normal => exact fin h1
  | ret => exact fin h1
  | exit id => exact h1.elim
  | goto l => exact h1.elim
  | panic c => exact h1.elim
  | outgrown => exact h1.elim

/-- A call that regions are given to. -/
theorem m_callG {f : FuncId} {args : List Opd} {as : List AV} {hin hout hp' : Hp} {res : AV} (g : Nat → Nat) (p : Nat → Bool) (hs : SpG P f as hin res hout) (ha : LendsH s.hp g hin (args.map s.ev) as) (hG : Given s p g hin hout hp' res)
    (k : K (AS.put ⟨(s.drop p).tm, hp'⟩ d (renV g res))) : aop1 P true ⟨d, .call f args, none⟩ s K := .inr (.inr (.inr (.inl ⟨rfl, as, hin, res, hout, g, p, hp', hs, ha, hG, k⟩)))
theorem m_callvG {f : FuncId} {x : Opd} {fl : List AV} {kk : Nat} {args : List Opd} {as : List AV} {hin hout hp' : Hp} {res : AV} (g : Nat → Nat) (p : Nat → Bool) (hx : s.ev x = .fn f fl kk) (hcb : Callable P f) (hs : SpG P f as hin res hout)
    (ha : LendsH s.hp g hin (fl.take kk ++ args.map s.ev ++ fl.drop kk) as) (hG : Given s p g hin hout hp' res)
    (k : K (AS.put ⟨(s.drop p).tm, hp'⟩ d (renV g res))) : aop1 P true ⟨d, .callv x args, none⟩ s K := .inr ⟨f, fl, kk, hx, hcb, .inr (.inr (.inr (.inl ⟨rfl, as, hin, res, hout, g, p, hp', hs, ha, hG, k⟩)))⟩

/-- Names on both sides of forgetting; what was given may become a region of the call's own. -/
def nameOk (r q : Nat) : Prop := (r < pbase ∧ q < pbase) ∨ (pbase ≤ r ∧ q = r) ∨ (r < pbase ∧ gvb ≤ q)
/-- THE RULE OF FORGETTING, where what was given becomes the call's own. -/
theorem weak_ren3 {s s' : AS} (f : Nat → Nat) (htm : ∀ t, s'.tm t = .any ∨ s.tm t = renV f (s'.tm t)) (hhp : ∀ r c', s'.hp r = some c' → ∃ c, s.hp (f r) = some c ∧ cellsRen f c c')
    (hinj : ∀ r r', (s'.hp r).isSome = true → (s'.hp r').isSome = true → f r = f r' → r = r') (hpb : ∀ r, (s'.hp r).isSome = true → nameOk r (f r))
    (href : ∀ t, refsV (fun r => (s'.hp r).isSome) (s'.tm t) = true) (hrefh : ∀ r cs, s'.hp r = some (false, cs) → refsL (fun r => (s'.hp r).isSome) cs = true) : Weak s s' := by
  intro w0 mu N a w hS
  obtain ⟨hf, phi, ro, hS⟩ := hS
  have hlive : ∀ r, (s'.hp r).isSome = true → (s.hp (f r)).isSome = true := by
    intro r hr
    obtain ⟨c, hc⟩ := Option.isSome_iff_exists.1 hr
    obtain ⟨c0, h1, _⟩ := hhp r c hc
    rw [h1]; rfl
  have hgp : pbase ≤ gvb := by decide
  have hown : ∀ r b, nameOk r (f r) → (f r < pbase ∧ Mine w0 mu b ∨ pbase ≤ f r ∧ mu (f r) = some b) → (r < pbase ∧ Mine w0 mu b ∨ pbase ≤ r ∧ mu r = some b) := by
    intro r b hp k4
    rcases hp with ⟨h3, h4⟩ | ⟨h3, h4⟩ | ⟨h3, h4⟩
    · rcases k4 with k4 | k4
      · exact .inl ⟨h3, k4.2⟩
      · omega
    · rcases k4 with k4 | k4
      · omega
      · exact .inr ⟨h3, by rw [← h4]; exact k4.2⟩
    · rcases k4 with k4 | k4
      · omega
      · exact .inl ⟨h3, .inr ⟨_, h4, k4.2⟩⟩
  refine ⟨hf, fun r => phi (f r), ro, { hS with
    inj := fun r r' b h1 h2 h3 h4 => hinj r r' h1 h2 (hS.inj _ _ b (hlive r h1) (hlive r' h2) h3 h4)
    liv := fun r c hc => ?_
    tms := fun t => ?_ }⟩
  · obtain ⟨c0, h1, h2⟩ := hhp r c hc
    have hp := hpb r (by rw [hc]; rfl)
    rcases hS.liv _ _ h1 with ⟨k1, k2, k3⟩ | ⟨b, cur, e, k1, k2, k3, k4, k5⟩ | ⟨b, o, rfl, k1, k2, k0, k3, k4⟩
    case inr.inr =>
      refine .inr (.inr ⟨b, o, ?_, k1, k2, k0, k3, hown r b hp k4⟩)
      obtain ⟨fl, cs⟩ := c
      rcases h2 with ⟨h3, h4⟩ | ⟨h3, h4⟩
      · simp only at h3 h4
        rw [h3]; exact h4.symm
      · simp only at h3
        rcases h4 with h4 | ⟨_, h4⟩ | ⟨h4, h5⟩
        · cases h4
        · simp at h4
        · simp only [Prod.mk.injEq, true_and] at h4
          rw [← h4] at h5
          simp [plainV] at h5
    · refine .inl ⟨k1, ?_, fun hge => ?_⟩
      · rcases h2 with ⟨_, rfl⟩ | ⟨_, rfl | ⟨h3, _⟩ | ⟨rfl, _⟩⟩
        · exact k2
        · simp only [renL_map] at k2
          exact List.map_eq_nil_iff.1 k2
        · exact h3
        · exact k2
      · rcases hp with ⟨h3, _⟩ | ⟨_, h3⟩ | ⟨h3, _⟩
        · omega
        · rw [h3] at k3; exact k3 hge
        · omega
    · refine .inr (.inl ⟨b, cur, e, k1, k2, k3, hown r b hp k4, ?_⟩)
      obtain ⟨fl, cs⟩ := c
      rcases h2 with ⟨h3, h4⟩ | ⟨h3, h4⟩
      · simp only at h3 h4
        subst h3; subst h4
        simp only [SimR, if_true] at k5 ⊢
        exact simL_out_any (ctx w0 w ro phi s) (ctx w0 w ro (fun r => phi (f r)) s') rfl rfl rfl _ _ k5
      · simp only at h3 h4
        subst h3
        simp only [SimR, Bool.false_eq_true, if_false]
        rcases h4 with rfl | ⟨h5, h6⟩ | ⟨rfl, h5⟩
        · simp only [SimR, Bool.false_eq_true, if_false] at k5
          exact simL_ren f (ctx w0 w ro (fun r => phi (f r)) s') (ctx w0 w ro phi s) rfl rfl rfl rfl (fun _ _ => rfl) cs _ (hrefh r cs hc) k5
        · rw [h5]; simp [SimL]
        · simp only [SimR, if_true] at k5
          exact simL_allv h5 k5
  · rcases htm t with h1 | h1
    · rw [h1]; simp [SimV]
    · have h2 := hS.tms t
      rw [h1] at h2
      exact simV_ren f (ctx w0 w ro (fun r => phi (f r)) s') (ctx w0 w ro phi s) rfl rfl rfl rfl (fun _ _ => rfl) _ _ (href t) h2

/-- A state with regions of a finite list, and rows. -/
def stG (l : List (Nat × AV)) (h : List (Nat × (Bool × List AV))) (b : Nat) (rows : List (List Int)) : AS := ⟨fun t => (look l t).getD .any, famH (look h) b rows⟩
/-- Forgetting, to such a state. -/
theorem weak_G {l : List (Nat × AV)} {h : List (Nat × (Bool × List AV))} {b : Nat} {rows : List (List Int)} (F : Nat → Nat) (hl : HasF s F l) (hh : HasJ s F h)
    (hrow : ∀ j, j < rows.length → s.hp (F (b + j)) = some (true, (rows.getD j []).map AV.i))
    (hnd : (h.map fun p => F p.1).Nodup) (hri : ∀ j j', j < rows.length → j' < rows.length → F (b + j) = F (b + j') → j = j') (hdis : ∀ p ∈ h, ∀ j, j < rows.length → F p.1 ≠ F (b + j))
    (hpb : ∀ p ∈ h, nameOk p.1 (F p.1)) (hpr : ∀ j, j < rows.length → nameOk (b + j) (F (b + j)))
    (hr : refsT (fun r => (famH (look h) b rows r).isSome) l = true) (hrh : ∀ p ∈ h, p.2.1 = false → refsL (fun r => (famH (look h) b rows r).isSome) p.2.2 = true) : Weak s (stG l h b rows) := by
  have hcase : ∀ r, (famH (look h) b rows r).isSome = true → r ∈ h.map (·.1) ∨ ∃ j, j < rows.length ∧ r = b + j := by
    intro r hr'
    obtain ⟨c, hc⟩ := Option.isSome_iff_exists.1 hr'
    rcases famH_some hc with h1 | ⟨_, j, h2, h3, _⟩
    · exact .inl (look_isSome.1 (by rw [h1]; rfl))
    · exact .inr ⟨j, h2, h3⟩
  refine weak_ren3 F (fun t => ?_) (fun r c' hc => ?_) (fun r r' h1 h2 e => ?_) (fun r hr' => ?_) (fun t => ?_) (fun r cs hc => ?_)
  · show (look l t).getD .any = .any ∨ s.tm t = renV F ((look l t).getD .any)
    cases hx : look l t with
    | none => exact .inl rfl
    | some x => exact .inr (look_hasF hl hx)
  · rcases famH_some hc with h1 | ⟨_, j, h2, h3, h4⟩
    · exact hh.at (look_mem h1)
    · rw [h3, h4]
      exact ⟨_, hrow j h2, .inl ⟨rfl, rfl⟩⟩
  · rcases hcase r h1 with k1 | ⟨j, k1, rfl⟩
    · rcases hcase r' h2 with k2 | ⟨j', k2, rfl⟩
      · exact look_inj hnd k1 k2 e
      · obtain ⟨p, hp, rfl⟩ := List.mem_map.1 k1
        exact absurd e (hdis p hp j' k2)
    · rcases hcase r' h2 with k2 | ⟨j', k2, rfl⟩
      · obtain ⟨p, hp, rfl⟩ := List.mem_map.1 k2
        exact absurd e.symm (hdis p hp j k1)
      · rw [hri j j' k1 k2 e]
  · rcases hcase r hr' with k1 | ⟨j, k1, rfl⟩
    · obtain ⟨p, hp, rfl⟩ := List.mem_map.1 k1
      exact hpb p hp
    · exact hpr j k1
  · show refsV (fun r => (famH (look h) b rows r).isSome) ((look l t).getD .any) = true
    cases hx : look l t with
    | none => rfl
    | some x => exact look_refs hr hx
  · rcases famH_some hc with h1 | ⟨_, j, _, _, h4⟩
    · exact hrh _ (look_mem h1) rfl
    · cases h4
/-- What a value is to a callee that is lent regions under the names g. -/
def LendH1 (hp : Hp) (g : Nat → Nat) (hin : Hp) (x y : AV) : Prop := ∀ w0 mu N tm w phi ro v, Sim w0 mu N ⟨fun _ => .any, hp⟩ tm w phi ro → SimV x (ctx w0 w ro phi ⟨fun _ => .any, hp⟩) v → SimV y (ctxE w (fun r => phi (g r)) hin) v
theorem lendH_nil {hp : Hp} {g : Nat → Nat} {hin : Hp} : LendsH hp g hin [] [] := fun _ _ _ _ _ _ _ vs _ _ hl => ⟨by simp [SimL], hl⟩
theorem lendH_cons {hp : Hp} {g : Nat → Nat} {hin : Hp} {x y : AV} {xs ys : List AV} (h : LendH1 hp g hin x y) (hs : LendsH hp g hin xs ys) : LendsH hp g hin (x :: xs) (y :: ys) := by
  intro w0 mu N tm w phi ro vs hS hv hl
  cases vs with
  | nil => simp at hl
  | cons v vs =>
    simp only [SimL] at hv
    obtain ⟨h1, h2⟩ := hs w0 mu N tm w phi ro vs hS hv.2 (by simpa using hl)
    exact ⟨⟨h w0 mu N tm w phi ro v hS hv.1, h1⟩, by simpa using h2⟩
theorem lendH_v {hp : Hp} {g : Nat → Nat} {hin : Hp} {c : Value} : LendH1 hp g hin (.v c) (.v c) := fun _ _ _ _ _ _ _ _ _ h => by simpa [SimV] using h
/-- A block that somebody reads is not lent. -/
theorem not_lent {hp : Hp} {g : Nat → Nat} {hin : Hp} (hin1 : ∀ r c, hin r = some c → (hp (g r)).isSome = true) {w0 : World} {mu : Nat → Option Nat} {N : Nat} {tm : Array Value} {w : World} {phi : Nat → Option Nat} {ro : Nat → Prop} (hS : Sim w0 mu N ⟨fun _ => .any, hp⟩ tm w phi ro) {b : Nat} (hb : ro b) :
    b < w.heap.size ∧ ∀ r, (hin r).isSome = true → phi (g r) ≠ some b := by
  refine ⟨hS.rob b hb, fun r hr hp' => ?_⟩
  obtain ⟨c, hc⟩ := Option.isSome_iff_exists.1 hr
  obtain ⟨c', hc'⟩ := Option.isSome_iff_exists.1 (hin1 r c hc)
  rcases hS.liv _ _ hc' with ⟨h1, _⟩ | ⟨b', _, _, h1, _, h2, _⟩ | ⟨b', _, _, h1, _, _, h2, _⟩
  · rw [h1] at hp'; cases hp'
  · rw [h1] at hp'; cases hp'
    exact h2 hb
  · rw [h1] at hp'; cases hp'
    exact h2 hb
theorem lendH_ren {hp : Hp} {g : Nat → Nat} {hin : Hp} {x : AV} (hin1 : ∀ r c, hin r = some c → (hp (g r)).isSome = true) (ho : ownV true x = true) (hr : refsV (fun r => (hin r).isSome) x = true) : LendH1 hp g hin (renV g x) x := by
  intro w0 mu N tm w phi ro v hS hv
  exact simV_in true g (ctxE w (fun r => phi (g r)) hin) (ctx w0 w ro phi ⟨fun _ => .any, hp⟩) rfl (fun _ b hb => not_lent hin1 hS hb) (fun _ => rfl) (fun _ r _ => rfl) x v ho hr hv
/-- A region of mine that is not lent is read. -/
theorem lendH_sl {hp : Hp} {g : Nat → Nat} {hin : Hp} {q : Nat} {M : List Int} (hin1 : ∀ r c, hin r = some c → (hp (g r)).isSome = true) (hq : hp q = some (true, M.map AV.i)) (hne : ∀ r, (hin r).isSome = true → g r ≠ q) : LendH1 hp g hin (.sl q 1 0 M.length) (ints M) := by
  intro w0 mu N tm w phi ro v hS h
  simp only [SimV] at h ⊢
  rcases h.2.2 with ⟨h1, _, h3, h4⟩ | ⟨b, o, cap, cur, e, h1, h2, h3, h4, h5, h6, h7⟩
  · exact .inl ⟨h3, by rw [List.eq_nil_of_length_eq_zero h3]; rfl, none, 0, by rw [h4], by simp⟩
  · by_cases hn : M.length = 0
    · exact .inl ⟨hn, by rw [List.eq_nil_of_length_eq_zero hn]; rfl, some ⟨b, o, none⟩, cap, by rw [h2, hn], by simp⟩
    · have ho : o = 0 := by
        rcases h4 with h4 | h4
        · exact h4
        · exact absurd h4.1 hn
      subst ho
      have h1' : phi q = some b := h1
      have h3' : w.heap[b]? = some (.cells cur e (0, 0)) := h3
      rcases hS.liv q _ hq with ⟨h8, _⟩ | ⟨b', cur', e', h8, h9, h10, h11, h12⟩ | ⟨b', o', _, h8, h9, h10, _⟩
      · rw [h8] at h1'; cases h1'
      case inr.inr => exact ob_not_cells h8 h9 h10 h1 h3
      · rw [h8] at h1'
        cases h1'
        rw [h9] at h3'
        cases h3'
        refine .inr ⟨b, 0, cap, cur, e, (0, 0), h2, h9, ⟨lt_of_get h9, fun r hr hp' => ?_⟩, by simp, h5, by simp, ?_⟩
        · obtain ⟨c, hc⟩ := Option.isSome_iff_exists.1 hr
          exact hne r hr (hS.inj _ _ b (hin1 r c hc) (by show (hp q).isSome = true; rw [hq]; rfl) hp' h8)
        · simp only [SimR, if_true] at h12
          rw [List.drop_zero]
          exact simL_allv (allv_ints M) h12
end Go.Am
