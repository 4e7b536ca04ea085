/- The abstract machine, part two: abstract states, when a state of the model is one, and what keeps this. -/
import Derived.Test.YtgjlaajkakecpaaAmGd
namespace Go.Am

/-- An abstract state: what each slot holds; of each region of the call's own, whether its cells lead to no other region, and its cells. -/
structure AS where
  tm : Nat → AV
  hp : Nat → Option (Bool × List AV)

def AS.put (s : AS) (d : Option Nat) (x : AV) : AS :=
  match d with
  | some d => { s with tm := fun t => if t = d then x else s.tm t }
  | none => s
def killR (r : Nat) : Bool × List AV → Bool × List AV
  | (true, cs) => (true, cs)
  | (false, cs) => (false, killL r cs)
def AS.kill (s : AS) (r : Nat) : AS := ⟨fun t => killV r (s.tm t), fun q => if q = r then none else (s.hp q).map (killR r)⟩
def AS.mem (s : AS) (r : Nat) (c : Bool × List AV) : AS := { s with hp := fun q => if q = r then some c else s.hp q }

def ctx (w0 w : World) (ro : Nat → Prop) (phi : Nat → Option Nat) (s : AS) : Ctx :=
  { heap := w.heap, ro, base := w0.heap.size, phi, live := fun r => (s.hp r).isSome, loc := true }

def isCells : Obj → Bool
  | .cells _ _ _ => true
  | _ => false
def SimR (c : Bool × List AV) (C : Ctx) (ys : List Value) : Prop := SimL c.2 (if c.1 then C.out else C) ys

/-- Regions from this number on are a caller's. -/
def pbase : Nat := 4000000
/-- Regions from this number on are given to a call, for good. -/
def gvb : Nat := 16000000
/-- A block that a call may have for its own: a new one, or one that it was given. -/
def Mine (w0 : World) (mu : Nat → Option Nat) (b : Nat) : Prop := w0.heap.size ≤ b ∨ ∃ r, gvb ≤ r ∧ mu r = some b

/-- The model's slots and memory are as the abstract state says: w0: the world when the call began; mu: the elder blocks that it may write. -/
structure Sim (w0 : World) (mu : Nat → Option Nat) (N : Nat) (s : AS) (tm : Array Value) (w : World) (phi : Nat → Option Nat) (ro : Nat → Prop) : Prop where
  os : w.os = w0.os
  tape : w.tape = w0.tape
  output : w.output = w0.output
  size : w0.heap.size ≤ w.heap.size
  kept : ∀ b, b < w0.heap.size → (∀ r, mu r ≠ some b) → w.heap[b]? = w0.heap[b]?
  shp : ∀ (b : Nat) (cur : Array Value) (e : TypeId) (f : Nat × Nat), w0.heap[b]? = some (.cells cur e f) → ∃ cur' : Array Value, w.heap[b]? = some (.cells cur' e f) ∧ cur'.size = cur.size
  npb : N ≤ pbase
  gd : GoodB w0 mu
  rob : ∀ b, ro b → b < w.heap.size
  inj : ∀ r r' b, (s.hp r).isSome = true → (s.hp r').isSome = true → phi r = some b → phi r' = some b → r = r'
  liv : ∀ r c, s.hp r = some c → (phi r = none ∧ c.2 = [] ∧ (pbase ≤ r → mu r = none)) ∨
    (∃ b cur e, phi r = some b ∧ w.heap[b]? = some (.cells cur e (0, 0)) ∧ ¬ ro b ∧ (r < pbase ∧ Mine w0 mu b ∨ pbase ≤ r ∧ mu r = some b) ∧ SimR c (ctx w0 w ro phi s) cur.toList) ∨
    ∃ b o, c = (true, [.ob o]) ∧ phi r = some b ∧ w.heap[b]? = some o ∧ isCells o = false ∧ ¬ ro b ∧ (r < pbase ∧ Mine w0 mu b ∨ pbase ≤ r ∧ mu r = some b)
  tms : ∀ t, SimV (s.tm t) (ctx w0 w ro phi s) (tm.getD t undef)
  slots : N ≤ tm.size

theorem Sim.goodW {w0 w : World} {mu : Nat → Option Nat} {N : Nat} {s : AS} {tm : Array Value} {phi : Nat → Option Nat} {ro : Nat → Prop} (h : Sim w0 mu N s tm w phi ro) : GoodW w := by
  intro b hb
  obtain ⟨cur, e, fz, h1, h2⟩ := h.gd.wld b hb
  exact ⟨cur, e, fz, (h.kept b (Array.getElem?_eq_some_iff.1 h1).1 fun r hr => h.gd.off r b hr hb).trans h1, h2⟩
theorem Sim.regGood {w0 w : World} {mu : Nat → Option Nat} {N : Nat} {s : AS} {tm : Array Value} {phi : Nat → Option Nat} {ro : Nat → Prop} (h : Sim w0 mu N s tm w phi ro) {r b : Nat} {c : Bool × List AV} (hr : s.hp r = some c) (hb : phi r = some b) : b ∉ goodB := by
  intro hm
  obtain ⟨cur0, e0, fz, h1, _⟩ := h.gd.wld b hm
  have hlt := (Array.getElem?_eq_some_iff.1 h1).1
  have key : (r < pbase ∧ Mine w0 mu b ∨ pbase ≤ r ∧ mu r = some b) → False := by
    rintro (⟨_, h2 | ⟨r', _, h2⟩⟩ | ⟨_, h2⟩)
    · omega
    · exact h.gd.off r' b h2 hm
    · exact h.gd.off r b h2 hm
  rcases h.liv r c hr with ⟨h2, _⟩ | ⟨b', cur, e, h2, _, _, h3, _⟩ | ⟨b', o, _, h2, _, _, _, h3⟩
  · rw [h2] at hb; cases hb
  · rw [h2] at hb; cases hb; exact key h3
  · rw [h2] at hb; cases hb; exact key h3

theorem SimR.mono {c : Bool × List AV} {C D : Ctx} {ys : List Value} (h : SimR c C ys) (hl : C.Le D) : SimR c D ys := by
  unfold SimR at *
  split
  · rename_i hc; rw [if_pos hc] at h; exact SimL.mono _ _ _ _ (hl.out _) h
  · rename_i hc; rw [if_neg hc] at h; exact SimL.mono _ _ _ _ hl h

theorem SimR.kill {r : Nat} {c : Bool × List AV} {C D : Ctx} {ys : List Value} (h : SimR c C ys) (hl : C.LeOn (fun q => !(q == r)) D) : SimR (killR r c) D ys := by
  obtain ⟨f, cs⟩ := c
  cases f
  · simp only [SimR, killR, Bool.false_eq_true, if_false] at h ⊢
    exact SimL.kill r _ _ _ _ hl h
  · simp only [SimR, killR, if_true] at h ⊢
    exact SimL.mono _ _ _ _ (hl.out _) h

theorem ev_const_getD {a : Act} {t : Nat} : a.eval (.tmp t) = a.tmps.getD t undef := rfl

/-- A slot is written. -/
theorem Sim.put {w0 w : World} {mu : Nat → Option Nat} {N : Nat} {s : AS} {a : Act} {phi : Nat → Option Nat} {ro : Nat → Prop} (h : Sim w0 mu N s a.tmps w phi ro)
    {d : Option Nat} (hd : ∀ k, d = some k → k < N) {x : AV} {v : Value} (hx : SimV x (ctx w0 w ro phi s) v) : Sim w0 mu N (s.put d x) (a.put d v).tmps w phi ro := by
  cases d with
  | none => exact h
  | some d =>
    refine { h with tms := fun t => ?_, slots := by simpa [Act.put] using h.slots }
    have hdn : d < a.tmps.size := Nat.lt_of_lt_of_le (hd d rfl) h.slots
    simp only [AS.put, Act.put]
    by_cases htd : t = d
    · subst htd
      simpa [hdn, ctx] using hx
    · have hdt : d ≠ t := fun e => htd e.symm
      have := h.tms t
      simp only [Array.getD_eq_getD_getElem?] at this
      simpa [htd, Array.getElem?_setIfInBounds_ne hdt, ctx] using this

/-- The world has grown: new blocks, draws; all that was there is as it was. -/
structure More (w w' : World) : Prop where
  os : w'.os = w.os
  tape : w'.tape = w.tape
  output : w'.output = w.output
  size : w.heap.size ≤ w'.heap.size
  block : ∀ b, b < w.heap.size → w'.heap[b]? = w.heap[b]?

theorem More.refl (w : World) : More w w := ⟨rfl, rfl, rfl, Nat.le_refl _, fun _ _ => rfl⟩
theorem More.trans {a b c : World} (h : More a b) (k : More b c) : More a c :=
  ⟨k.os.trans h.os, k.tape.trans h.tape, k.output.trans h.output, Nat.le_trans h.size k.size, fun i hi => (k.block i (Nat.lt_of_lt_of_le hi h.size)).trans (h.block i hi)⟩
theorem More.drew (w : World) : More w w.drew := ⟨rfl, rfl, rfl, Nat.le_refl _, fun _ _ => rfl⟩
theorem More.alloc (w : World) (o : Obj) : More w (w.alloc o) := ⟨rfl, rfl, rfl, by simp, fun b hb => heap_alloc_old w o hb⟩

theorem lt_of_get {h : Array Obj} {b : Nat} {o : Obj} (e : h[b]? = some o) : b < h.size := (Array.getElem?_eq_some_iff.1 e).1

theorem Ctx.le_more {w0 w w' : World} {ro : Nat → Prop} {phi : Nat → Option Nat} {s : AS} (hm : More w w') (rob : ∀ b, ro b → b < w.heap.size)
    (ro' : Nat → Prop) (hro : ∀ b, ro b → ro' b) : (ctx w0 w ro phi s).Le (ctx w0 w' ro' phi s) :=
  ⟨fun b hb => ⟨hro b hb, hm.block b (rob b hb)⟩, Nat.le_refl _, id, fun _ _ _ hr => ⟨hr, rfl⟩, fun _ _ b cur _ _ _ _ hb => ⟨cur, (hm.block b (lt_of_get hb)).trans hb, Nat.le_refl _⟩⟩

/-- Sim is kept while the world grows; the readable blocks may grow by new ones. -/
theorem Sim.more {w0 w w' : World} {mu : Nat → Option Nat} {N : Nat} {s : AS} {tm : Array Value} {phi : Nat → Option Nat} {ro : Nat → Prop} (h : Sim w0 mu N s tm w phi ro)
    (hm : More w w') (ro' : Nat → Prop) (hro : ∀ b, ro b → ro' b) (hnew : ∀ b, ro' b → ro b ∨ w.heap.size ≤ b ∧ b < w'.heap.size) : Sim w0 mu N s tm w' phi ro' where
  os := hm.os.trans h.os
  tape := hm.tape.trans h.tape
  output := hm.output.trans h.output
  size := Nat.le_trans h.size hm.size
  kept := fun b hb hmu => (hm.block b (Nat.lt_of_lt_of_le hb h.size)).trans (h.kept b hb hmu)
  shp := fun b cur e f hb => by
    obtain ⟨cur', h1, h2⟩ := h.shp b cur e f hb
    exact ⟨cur', (hm.block b (lt_of_get h1)).trans h1, h2⟩
  npb := h.npb
  gd := h.gd
  rob := fun b hb => by
    rcases hnew b hb with h1 | h1
    · exact Nat.lt_of_lt_of_le (h.rob b h1) hm.size
    · exact h1.2
  inj := h.inj
  liv := fun r c hr => by
    rcases h.liv r c hr with h1 | ⟨b, cur, e, h1, h2, h3, h4, h5⟩ | ⟨b, o, h0, h1, h2, h3, h4, h5⟩
    · exact .inl h1
    · refine .inr (.inl ⟨b, cur, e, h1, (hm.block b (lt_of_get h2)).trans h2, fun hb => ?_, h4, h5.mono (Ctx.le_more hm h.rob ro' hro)⟩)
      have hlt := lt_of_get h2
      rcases hnew b hb with h6 | h6
      · exact h3 h6
      · omega
    · refine .inr (.inr ⟨b, o, h0, h1, (hm.block b (lt_of_get h2)).trans h2, h3, fun hb => ?_, h5⟩)
      have hlt := lt_of_get h2
      rcases hnew b hb with h6 | h6
      · exact h4 h6
      · omega
  tms := fun t => SimV.mono _ _ _ _ (Ctx.le_more hm h.rob ro' hro) (h.tms t)
  slots := h.slots

theorem Sim.more_same {w0 w w' : World} {mu : Nat → Option Nat} {N : Nat} {s : AS} {tm : Array Value} {phi : Nat → Option Nat} {ro : Nat → Prop} (h : Sim w0 mu N s tm w phi ro)
    (hm : More w w') : Sim w0 mu N s tm w' phi ro := h.more hm ro (fun _ h => h) (fun _ h => .inl h)

/-- A region is forgotten, and with it all that leads to it. -/
theorem Sim.kill {w0 w : World} {mu : Nat → Option Nat} {N : Nat} {s : AS} {tm : Array Value} {phi : Nat → Option Nat} {ro : Nat → Prop} (h : Sim w0 mu N s tm w phi ro) (r : Nat) :
    Sim w0 mu N (s.kill r) tm w phi ro := by
  have hle : (ctx w0 w ro phi s).LeOn (fun q => !(q == r)) (ctx w0 w ro phi (s.kill r)) := by
    refine ⟨fun b hb => ⟨hb, rfl⟩, Nat.le_refl _, id, fun _ q hq hl => ⟨?_, rfl⟩, fun _ q b cur e _ _ _ hb => ⟨cur, hb, Nat.le_refl _⟩⟩
    have hqr : q ≠ r := by simpa using hq
    simpa [ctx, AS.kill, hqr] using hl
  have hlive : ∀ q, ((s.kill r).hp q).isSome = true → q ≠ r ∧ (s.hp q).isSome = true := by
    intro q hq
    by_cases hqr : q = r
    · simp [AS.kill, hqr] at hq
    · exact ⟨hqr, by simpa [AS.kill, hqr] using hq⟩
  exact { h with
    inj := fun q q' b hq hq' h1 h2 => h.inj q q' b (hlive q hq).2 (hlive q' hq').2 h1 h2
    liv := fun q c hq => by
      have hqr : q ≠ r := (hlive q (by simp [hq])).1
      simp only [AS.kill, hqr, if_false, Option.map_eq_some_iff] at hq
      obtain ⟨c0, hq0, rfl⟩ := hq
      rcases h.liv q c0 hq0 with ⟨h1, h2, h3⟩ | ⟨b, cur, e, h1, h2, h3, h4, h5⟩ | ⟨b, o, rfl, h1, h2, h3, h4, h5⟩
      · exact .inl ⟨h1, (by obtain ⟨f, cs⟩ := c0; cases f <;> simp_all [killR, killL]), h3⟩
      · exact .inr (.inl ⟨b, cur, e, h1, h2, h3, h4, h5.kill hle⟩)
      · exact .inr (.inr ⟨b, o, rfl, h1, h2, h3, h4, h5⟩)
    tms := fun t => SimV.kill r _ _ _ _ hle (h.tms t) }

theorem refsL_eq {keep : Nat → Bool} {r : Nat} (h : ∀ q, keep q = true → q ≠ r) (l : List AV) (hl : refsL keep l = true) : refsL (fun q => !(q == r)) l = true := by
  have key := AV.rec_1 (motive_1 := fun x => refsV keep x = true → refsV (fun q => !(q == r)) x = true) (motive_2 := fun l => refsL keep l = true → refsL (fun q => !(q == r)) l = true)
    (by simp [refsV]) (by simp [refsV]) (by intros; simp [refsV]) (by intros; simp [refsV]) (fun q _ _ _ hq => by simp only [refsV] at hq ⊢; simpa using h q hq)
    (fun q _ hq => by simp only [refsV] at hq ⊢; simpa using h q hq) (fun l hl hq => by simp only [refsV] at hq ⊢; exact hl hq) (fun l hl hq => by simp only [refsV] at hq ⊢; exact hl hq)
    (fun q hq => by simp only [refsV] at hq ⊢; simpa using h q hq) (fun q hq => by simp only [refsV] at hq ⊢; simpa using h q hq) (by intros; simp [refsV]) (fun f l k hl hq => by simp only [refsV] at hq ⊢; exact hl hq) (by intros; simp [refsV]) (by intros; simp [refsV]) (fun q m _ _ _ hq => by
      simp only [refsV, Bool.and_eq_true] at hq ⊢
      refine ⟨by simpa using h q hq.1, ?_⟩
      cases m with
      | none => rfl
      | some k => simpa using h k (by simpa using hq.2))
    (by simp [refsL]) (fun a l ha hl hq => by simp only [refsL, Bool.and_eq_true] at hq ⊢; exact ⟨ha hq.1, hl hq.2⟩) l
  exact key hl
theorem refsV_eq {keep : Nat → Bool} {r : Nat} (h : ∀ q, keep q = true → q ≠ r) (x : AV) (hx : refsV keep x = true) : refsV (fun q => !(q == r)) x = true := by
  have := refsL_eq h [x] (by simp [refsL, hx])
  simpa [refsL] using this

/-- A region r that is not there comes to be: at a block of the call's own that no other region has and that is not readable; or, empty, nowhere. -/
theorem Sim.born {w0 w : World} {mu : Nat → Option Nat} {N : Nat} {s : AS} {tm : Array Value} {phi : Nat → Option Nat} {ro : Nat → Prop} (h : Sim w0 mu N s tm w phi ro)
    {r : Nat} (hr : s.hp r = none) (hpb : r < pbase) (c : Bool × List AV) (bo : Option Nat)
    (hb : match bo with
      | none => c.2 = []
      | some b => ¬ ro b ∧ Mine w0 mu b ∧ (∀ q, (s.hp q).isSome = true → phi q ≠ some b) ∧
          ((∃ cur e, w.heap[b]? = some (.cells cur e (0, 0)) ∧ SimR c (ctx w0 w ro (fun q => if q = r then bo else phi q) (s.mem r c)) cur.toList) ∨ ∃ o, c = (true, [.ob o]) ∧ w.heap[b]? = some o ∧ isCells o = false)) :
    Sim w0 mu N (s.mem r c) tm w (fun q => if q = r then bo else phi q) ro := by
  have hne : ∀ q, (s.hp q).isSome = true → q ≠ r := fun q hq e => by subst e; simp [hr] at hq
  have hle : (ctx w0 w ro phi s).LeOn (fun q => !(q == r)) (ctx w0 w ro (fun q => if q = r then bo else phi q) (s.mem r c)) := by
    refine ⟨fun b hb => ⟨hb, rfl⟩, Nat.le_refl _, id, fun _ q hq hl => ?_, fun _ q b cur e _ _ _ hb => ⟨cur, hb, Nat.le_refl _⟩⟩
    have hqr : q ≠ r := by simpa using hq
    refine ⟨?_, by simp [ctx, hqr]⟩
    simpa [ctx, AS.mem, hqr] using hl
  have hlive : ∀ q, q ≠ r → ((s.mem r c).hp q).isSome = true → (s.hp q).isSome = true := by
    intro q hqr hq
    simpa [AS.mem, hqr] using hq
  exact { h with
    inj := fun q q' b hq hq' h1 h2 => by
      by_cases hqr : q = r
      · by_cases hqr' : q' = r
        · rw [hqr, hqr']
        · simp only [hqr, if_true] at h1
          simp only [hqr', if_false] at h2
          subst h1
          obtain ⟨_, _, h3, _⟩ := hb
          exact absurd h2 (h3 q' (hlive q' hqr' hq'))
      · simp only [hqr, if_false] at h1
        by_cases hqr' : q' = r
        · simp only [hqr', if_true] at h2
          subst h2
          obtain ⟨_, _, h3, _⟩ := hb
          exact absurd h1 (h3 q (hlive q hqr hq))
        · simp only [hqr', if_false] at h2
          exact h.inj q q' b (hlive q hqr hq) (hlive q' hqr' hq') h1 h2
    liv := fun q c' hq => by
      by_cases hqr : q = r
      · subst hqr
        simp only [AS.mem, if_true, Option.some.injEq] at hq
        subst hq
        cases bo with
        | none => exact .inl ⟨by simp, hb, fun hh => by omega⟩
        | some b =>
          obtain ⟨h2, h3, _, hb⟩ := hb
          rcases hb with ⟨cur, e, h1, h4⟩ | ⟨o, h0, h1, h4⟩
          · exact .inr (.inl ⟨b, cur, e, by simp, h1, h2, .inl ⟨hpb, h3⟩, h4⟩)
          · exact .inr (.inr ⟨b, o, h0, by simp, h1, h4, h2, .inl ⟨hpb, h3⟩⟩)
      · simp only [AS.mem, hqr, if_false] at hq
        rcases h.liv q c' hq with ⟨h1, h2, h3⟩ | ⟨b, cur, e, h1, h2, h3, h4, h5⟩ | ⟨b, o, h0, h1, h2, h3, h4, h5⟩
        · exact .inl ⟨by simp [hqr, h1], h2, h3⟩
        case inr.inr => exact .inr (.inr ⟨b, o, h0, by simp [hqr, h1], h2, h3, h4, h5⟩)
        · refine .inr (.inl ⟨b, cur, e, by simp [hqr, h1], h2, h3, h4, ?_⟩)
          obtain ⟨f, cs⟩ := c'
          cases f
          · simp only [SimR, Bool.false_eq_true, if_false] at h5 ⊢
            exact SimL.on _ _ _ _ _ hle (refsL_eq (fun q hq => hne q (by simpa [ctx] using hq)) _ (SimL.refs _ _ _ h5)) h5
          · simp only [SimR, if_true] at h5 ⊢
            exact SimL.mono _ _ _ _ (hle.out _) h5
    tms := fun t => SimV.on _ _ _ _ _ hle (refsV_eq (fun q hq => hne q (by simpa [ctx] using hq)) _ (SimV.refs _ _ _ (h.tms t))) (h.tms t) }
def dropR (p : Nat → Bool) : Bool × List AV → Bool × List AV
  | (true, cs) => (true, cs)
  | (false, cs) => (false, dropL p cs)
def AS.drop (s : AS) (p : Nat → Bool) : AS := ⟨fun t => dropV p (s.tm t), fun q => if p q = true then none else (s.hp q).map (dropR p)⟩
theorem SimR.dropP {p : Nat → Bool} {c : Bool × List AV} {C D : Ctx} {ys : List Value} (h : SimR c C ys) (hl : C.LeOn (fun q => !(p q)) D) : SimR (dropR p c) D ys := by
  obtain ⟨f, cs⟩ := c
  cases f
  · simp only [SimR, dropR, Bool.false_eq_true, if_false] at h ⊢
    exact SimL.dropP p _ _ _ _ hl h
  · simp only [SimR, dropR, if_true] at h ⊢
    exact SimL.mono _ _ _ _ (hl.out _) h
/-- Regions are forgotten, and with them all that leads to them. -/
theorem Sim.dropP {w0 w : World} {mu : Nat → Option Nat} {N : Nat} {s : AS} {tm : Array Value} {phi : Nat → Option Nat} {ro : Nat → Prop} (h : Sim w0 mu N s tm w phi ro) (p : Nat → Bool) :
    Sim w0 mu N (s.drop p) tm w phi ro := by
  have hle : (ctx w0 w ro phi s).LeOn (fun q => !(p q)) (ctx w0 w ro phi (s.drop p)) := by
    refine ⟨fun b hb => ⟨hb, rfl⟩, Nat.le_refl _, id, fun _ q hq hl => ⟨?_, rfl⟩, fun _ q b cur e _ _ _ hb => ⟨cur, hb, Nat.le_refl _⟩⟩
    have hqr : ¬ p q = true := by simpa using hq
    simpa [ctx, AS.drop, hqr] using hl
  have hlive : ∀ q, ((s.drop p).hp q).isSome = true → ¬ p q = true ∧ (s.hp q).isSome = true := by
    intro q hq
    by_cases hqr : p q = true
    · simp [AS.drop, hqr] at hq
    · exact ⟨hqr, by simpa [AS.drop, hqr] using hq⟩
  exact { h with
    inj := fun q q' b hq hq' h1 h2 => h.inj q q' b (hlive q hq).2 (hlive q' hq').2 h1 h2
    liv := fun q c hq => by
      have hqr : ¬ p q = true := (hlive q (by simp [hq])).1
      have hq1 : (if p q = true then none else (s.hp q).map (dropR p)) = some c := hq
      rw [if_neg hqr, Option.map_eq_some_iff] at hq1
      obtain ⟨c0, hq0, rfl⟩ := hq1
      rcases h.liv q c0 hq0 with ⟨h1, h2, h3⟩ | ⟨b, cur, e, h1, h2, h3, h4, h5⟩ | ⟨b, o, rfl, h1, h2, h3, h4, h5⟩
      · exact .inl ⟨h1, (by obtain ⟨f, cs⟩ := c0; cases f <;> simp_all [dropR, dropL]), h3⟩
      · exact .inr (.inl ⟨b, cur, e, h1, h2, h3, h4, h5.dropP hle⟩)
      · exact .inr (.inr ⟨b, o, rfl, h1, h2, h3, h4, h5⟩)
    tms := fun t => SimV.dropP p _ _ _ _ hle (h.tms t) }
end Go.Am
