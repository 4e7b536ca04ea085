/- The abstract machine, part twenty-three: an exact nil in a slot; regions lent and handed out, told by finite lists. -/
import Derived.Test.YtojpcpdbnmnknaaDoorAmV
namespace Go.Am
variable {P : Program} {own : Bool} {N : Nat} {s : AS} {K : AS → Prop} {d : Option Nat}

/-- A nil slice in a slot is a slice of an empty region. -/
theorem weak_nilslot (t q z : Nat) (fl : Bool) (ht : s.tm t = .v (.slice none 0 0)) (hq : s.hp q = none) (hqp : q < pbase) : Weak s ((s.mem q (fl, [])).put (some t) (.sl q z 0 0)) := by
  intro w0 mu N a w hS
  obtain ⟨hf, phi, ro, hS⟩ := hS
  have hS1 := hS.born hq hqp (fl, []) none rfl
  refine ⟨hf, _, ro, { hS1 with tms := fun t' => ?_ }⟩
  by_cases e : t' = t
  · subst e
    have h := hS.tms t'
    rw [ht] at h
    simp only [SimV] at h
    show SimV (if t' = t' then .sl q z 0 0 else _) _ _
    rw [if_pos rfl]
    simp only [SimV]
    exact ⟨rfl, by simp [ctx, AS.mem, AS.put], .inl ⟨by simp [ctx], trivial, trivial, h⟩⟩
  · show SimV (if t' = t then .sl q z 0 0 else (s.mem q (fl, [])).tm t') _ _
    rw [if_neg e]
    exact hS1.tms t'

/-- A nil slice in a slot is an empty slice that is read. -/
theorem weak_nilro (t z : Nat) (ht : s.tm t = .v (.slice none 0 0)) : Weak s (s.put (some t) (.ro false z [] 0)) := by
  intro w0 mu N a w hS
  obtain ⟨hf, phi, ro, hS⟩ := hS
  refine ⟨hf, phi, ro, { hS with tms := fun t' => ?_ }⟩
  by_cases e : t' = t
  · subst e
    have h := hS.tms t'
    rw [ht] at h
    simp only [SimV] at h
    show SimV (if t' = t' then .ro false z [] 0 else _) _ _
    rw [if_pos rfl]
    simp only [SimV]
    exact .inl ⟨trivial, trivial, none, 0, h, by simp⟩
  · show SimV (if t' = t then .ro false z [] 0 else s.tm t') _ _
    rw [if_neg e]
    exact hS.tms t'
/-- How long an exact nil is. -/
theorem m_len_nil {x : Opd} (hx : s.ev x = .v (.slice none 0 0)) (k : K (s.put d (.i (0 : Nat)))) : aop1 P own ⟨d, .len x, none⟩ s K := .inr (.inr ⟨none, 0, 0, hx, k⟩)

/-- The state's regions behind a call that handed out these, under the names g. -/
def outR (s : AS) (g : Nat → Nat) (ho : List (Nat × (Bool × List AV))) : Hp := fun q => (look (ho.map fun p => (g p.1, renR g p.2)) q).or (s.hp q)
theorem look_isSome {β : Type} {l : List (Nat × β)} {t : Nat} : (look l t).isSome = true ↔ t ∈ l.map (·.1) := by
  induction l with
  | nil => simp [look]
  | cons p l ih =>
    obtain ⟨k, x⟩ := p
    simp only [look, List.map_cons, List.mem_cons]
    by_cases e : t = k
    · simp [e]
    · rw [if_neg e, ih]; simp [e]
theorem look_map {g : Nat → Nat} {h : (Bool × List AV) → (Bool × List AV)} : ∀ {l : List (Nat × (Bool × List AV))} {r : Nat} {c : Bool × List AV}, (l.map fun p => g p.1).Nodup → look l r = some c → look (l.map fun p => (g p.1, h p.2)) (g r) = some (h c)
  | [], _, _, _, e => by simp [look] at e
  | (k, x) :: l, r, c, hn, e => by
    simp only [look, List.map_cons] at e ⊢
    simp only [List.map_cons, List.nodup_cons] at hn
    by_cases hk : r = k
    · subst hk
      rw [if_pos rfl] at e ⊢
      cases e
      rfl
    · rw [if_neg hk] at e
      have hm := look_mem e
      have hne : ¬ g r = g k := fun e2 => hn.1 (List.mem_map.2 ⟨(r, c), hm, e2⟩)
      rw [if_neg hne]
      exact look_map hn.2 e
theorem look_inj {g : Nat → Nat} : ∀ {l : List (Nat × (Bool × List AV))} {r r' : Nat}, (l.map fun p => g p.1).Nodup → r ∈ l.map (·.1) → r' ∈ l.map (·.1) → g r = g r' → r = r'
  | [], _, _, _, h, _, _ => by simp at h
  | (k, x) :: l, r, r', hn, h1, h2, e => by
    simp only [List.map_cons, List.nodup_cons, List.mem_cons] at hn h1 h2
    have key : ∀ q, q ∈ l.map (·.1) → g q ∈ l.map fun p => g p.1 := fun q hq => by
      obtain ⟨p, hp, rfl⟩ := List.mem_map.1 hq
      exact List.mem_map.2 ⟨p, hp, rfl⟩
    rcases h1 with rfl | h1
    · rcases h2 with rfl | h2
      · rfl
      · exact absurd (e ▸ key _ h2) hn.1
    · rcases h2 with rfl | h2
      · exact absurd (e ▸ key _ h1) hn.1
      · exact look_inj hn.2 h1 h2 e

/-- Each region of a list is there, under its name. -/
def HasI (s : AS) (g : Nat → Nat) : List (Nat × (Bool × List AV)) → Prop
  | [] => True
  | (r, c) :: l => s.hp (g r) = some (renR g c) ∧ HasI s g l
def HasO (s : AS) (g : Nat → Nat) : List (Nat × (Bool × List AV)) → Prop
  | [] => True
  | (r, c) :: l => (∃ c0, s.hp (g r) = some c0 ∧ (c0 = renR g c ∨ (c.2 = [] ∧ c0.2 = []))) ∧ HasO s g l
theorem HasI.all {g : Nat → Nat} : ∀ {l : List (Nat × (Bool × List AV))}, HasI s g l → ∀ p ∈ l, s.hp (g p.1) = some (renR g p.2)
  | [], _, _, hp => by simp at hp
  | _ :: _, h, p, hp => by
    rcases List.mem_cons.1 hp with rfl | hp
    · exact h.1
    · exact HasI.all h.2 p hp
theorem HasO.all {g : Nat → Nat} : ∀ {l : List (Nat × (Bool × List AV))}, HasO s g l → ∀ p ∈ l, ∃ c0, s.hp (g p.1) = some c0 ∧ (c0 = renR g p.2 ∨ (p.2.2 = [] ∧ c0.2 = []))
  | [], _, _, hp => by simp at hp
  | _ :: _, h, p, hp => by
    rcases List.mem_cons.1 hp with rfl | hp
    · exact h.1
    · exact HasO.all h.2 p hp

/-- A call that is lent the regions of one list and hands back those of another. -/
theorem m_callR {f : FuncId} {args : List Opd} {as : List AV} {hl ho : List (Nat × (Bool × List AV))} {res : AV} (g : Nat → Nat) (hs : SpH P f as (look hl) res (look ho)) (ha : args.map s.ev = renL g as)
    (hha : ownL true as = true) (hra : refsL (fun r => (look hl r).isSome) as = true)
    (hI : HasI s g hl) (hnd : (ho.map fun p => g p.1).Nodup) (hst : ∀ p ∈ hl, p.1 ∈ ho.map (·.1)) (hfr : ∀ p ∈ ho, p.1 ∈ hl.map (·.1) ∨ (s.hp (g p.1) = none ∧ g p.1 < pbase))
    (hoI : ∀ p ∈ hl, ownL true p.2.2 = true ∧ refsL (fun r => (look hl r).isSome) p.2.2 = true) (hoO : ∀ p ∈ ho, ownL false p.2.2 = true) (hoR : ownV false res = true)
    (k : K (AS.put ⟨s.tm, outR s g ho⟩ d (renV g res))) : aop1 P true ⟨d, .call f args, none⟩ s K := by
  have has := hI.all
  refine m_callh g hs ?_ ⟨fun r c hc => has _ (look_mem hc), fun r r' h1 h2 e => look_inj hnd (look_isSome.1 h1) (look_isSome.1 h2) e, fun r hr => ?_, fun r hr hn => ?_, fun r c hc => ?_, fun q hq => ?_, fun r c hc => hoI _ (look_mem hc), fun r c hc => hoO _ (look_mem hc), hoR⟩ k
  · rw [ha]
    exact lendsH_ren (fun r c hc => by rw [has _ (look_mem hc)]; rfl) hha hra
  · obtain ⟨p, hp, rfl⟩ := List.mem_map.1 (look_isSome.1 hr)
    exact look_isSome.2 (hst p hp)
  · obtain ⟨p, hp, rfl⟩ := List.mem_map.1 (look_isSome.1 hr)
    rcases hfr p hp with h1 | h1
    · have := look_isSome.2 h1
      rw [hn] at this
      cases this
    · exact h1
  · show (look _ (g r)).or _ = _
    rw [look_map hnd hc]
    rfl
  · show (look (ho.map fun p => (g p.1, renR g p.2)) q).or _ = _
    have : look (ho.map fun p => (g p.1, renR g p.2)) q = none := by
      cases h : look (ho.map fun p => (g p.1, renR g p.2)) q with
      | none => rfl
      | some c =>
        obtain ⟨p, hp, e⟩ := List.mem_map.1 (look_mem h)
        cases e
        exact absurd rfl (hq p.1 (look_isSome.2 (List.mem_map.2 ⟨p, hp, rfl⟩)))
    rw [this]
    rfl
/-- What is asked of such lists. -/
theorem static_R {hl ho : List (Nat × (Bool × List AV))} {res : AV} (h1 : ∀ p ∈ hl, pbase ≤ p.1) (h2 : ∀ p ∈ ho, ownL false p.2.2 = true ∧ refsL (fun r => (look ho r).isSome) p.2.2 = true) (h3 : ownV false res = true ∧ refsV (fun r => (look ho r).isSome) res = true) : Static (look hl) res (look ho) :=
  ⟨fun r hr => by
    obtain ⟨p, hp, rfl⟩ := List.mem_map.1 (look_isSome.1 hr)
    exact h1 p hp, fun r c hc => h2 _ (look_mem hc), h3⟩
/-- The end of such a function. -/
theorem ret_R {ts : List Nat} {res : AV} {hl ho : List (Nat × (Bool × List AV))} (g : Nat → Nat) (h1 : resAV s ts = renV g res) (hO : HasO s g ho) (h3 : ∀ p ∈ hl, g p.1 = p.1 ∧ p.1 ∈ ho.map (·.1))
    (h4 : ∀ p ∈ ho, p.1 ∈ hl.map (·.1) ∨ g p.1 < pbase) (h5 : (ho.map fun p => g p.1).Nodup) : DoneH ts res (look hl) (look ho) .ret s := by
  have h2 := hO.all
  refine ret_doneh g h1 (fun r c hc => h2 _ (look_mem hc)) (fun r hr => ?_) (fun r hr hn => ?_) fun r r' a b e => look_inj h5 (look_isSome.1 a) (look_isSome.1 b) e
  · obtain ⟨p, hp, rfl⟩ := List.mem_map.1 (look_isSome.1 hr)
    exact ⟨(h3 p hp).1, look_isSome.2 (h3 p hp).2⟩
  · obtain ⟨p, hp, rfl⟩ := List.mem_map.1 (look_isSome.1 hr)
    rcases h4 p hp with k | k
    · have := look_isSome.2 k
      rw [hn] at this
      cases this
    · exact k

theorem norm_R {ts : List Nat} {res : AV} {hl ho : List (Nat × (Bool × List AV))} (g : Nat → Nat) (h1 : resAV s ts = renV g res) (hO : HasO s g ho) (h3 : ∀ p ∈ hl, g p.1 = p.1 ∧ p.1 ∈ ho.map (·.1))
    (h4 : ∀ p ∈ ho, p.1 ∈ hl.map (·.1) ∨ g p.1 < pbase) (h5 : (ho.map fun p => g p.1).Nodup) : DoneH ts res (look hl) (look ho) .normal s := ret_R (hl := hl) g h1 hO h3 h4 h5

/-- Regions under other names; cells that lead nowhere stay as they are. -/
def HasJ (s : AS) (f : Nat → Nat) : List (Nat × (Bool × List AV)) → Prop
  | [] => True
  | (r, (true, cs)) :: l => s.hp (f r) = some (true, cs) ∧ HasJ s f l
  | (r, (false, cs)) :: l => s.hp (f r) = some (false, renL f cs) ∧ HasJ s f l
theorem HasJ.at {f : Nat → Nat} : ∀ {h : List (Nat × (Bool × List AV))} {r : Nat} {c : Bool × List AV}, HasJ s f h → (r, c) ∈ h → ∃ c0, s.hp (f r) = some c0 ∧ cellsRen f c0 c
  | [], _, _, _, hm => by simp at hm
  | (k, (true, cs)) :: l, r, c, h, hm => by
    rcases List.mem_cons.1 hm with e | hm
    · cases e; exact ⟨_, h.1, .inl ⟨rfl, rfl⟩⟩
    · exact HasJ.at h.2 hm
  | (k, (false, cs)) :: l, r, c, h, hm => by
    rcases List.mem_cons.1 hm with e | hm
    · cases e; exact ⟨_, h.1, .inr ⟨rfl, .inl rfl⟩⟩
    · exact HasJ.at h.2 hm
/-- What is not told is forgotten, and what is told may get other names. -/
theorem weak_stR {l : List (Nat × AV)} {h : List (Nat × (Bool × List AV))} (f : Nat → Nat) (hl : HasF s f l) (hh : HasJ s f h) (hnd : (h.map fun p => f p.1).Nodup) (hpb : ∀ p ∈ h, (p.1 < pbase ∧ f p.1 < pbase) ∨ (pbase ≤ p.1 ∧ f p.1 = p.1))
    (hr : refsT (fun r => (look h r).isSome) l = true) (hrh : refsH (fun r => (look h r).isSome) h = true) : Weak s (st l h) := by
  refine weak_ren f (fun t => ?_) (fun r c' hc => hh.at (look_mem hc)) (fun r r' h1 h2 e => look_inj hnd (look_isSome.1 h1) (look_isSome.1 h2) e) (fun r hr' => ?_) (fun t => ?_) (fun r cs hc => ?_)
  · show (look l t).getD .any = .any ∨ s.tm t = renV f ((look l t).getD .any)
    cases hx : look l t with
    | none => exact .inl rfl
    | some x => exact .inr (look_hasF hl hx)
  · obtain ⟨p, hp, rfl⟩ := List.mem_map.1 (look_isSome.1 hr')
    exact hpb p hp
  · show refsV (fun r => (look h r).isSome) ((look l t).getD .any) = true
    cases hx : look l t with
    | none => rfl
    | some x => exact look_refs hr hx
  · have h1 : (false || refsL (fun r => (look h r).isSome) cs) = true := look_refsH hrh hc
    rw [Bool.false_or] at h1
    exact h1

/-- A loop that is left in many places goes on from one state. -/
def CutQ (R : AS) (Q : Exit → AS → Prop) : Exit → AS → Prop
  | .normal, s => Weak s R
  | e, s => Q e s
theorem AW_cutloop {id : Nat} {c y : ACode} {Q : Exit → AS → Prop} (R : AS) (k : AW P N y R Q) (h : AW P N (.loop c) s (InBlock id (CutQ R Q))) : AW P N (.loop c) s (InBlock id (Then (fun s' => AW P N y s' Q) Q)) := by
  have key : ∀ e s', CutQ R Q e s' → Then (fun s' => AW P N y s' Q) Q e s' := by
    intro e s' he
    cases e <;> first | exact AW_weak he k | exact he
  refine AW_mono h fun e s' he => ?_
  cases e with
  | exit i =>
    simp only [InBlock] at he ⊢
    split at he
    · rename_i hi
      rw [if_pos hi]
      exact key _ _ he
    · rename_i hi
      rw [if_neg hi]
      exact key _ _ he
  | normal => exact key .normal _ he
  | ret => exact key .ret _ he
  | goto l => exact key (.goto l) _ he
  | panic x => exact key (.panic x) _ he
  | outgrown => exact key .outgrown _ he
end Go.Am
