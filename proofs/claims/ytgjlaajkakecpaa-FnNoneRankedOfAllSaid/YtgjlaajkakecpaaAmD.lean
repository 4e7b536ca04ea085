/- The abstract machine, part four: how a state changes when memory is made or written. -/
import Derived.Test.YtgjlaajkakecpaaAmC
namespace Go.Am

theorem Sim.ev {w0 w : World} {mu : Nat → Option Nat} {N : Nat} {s : AS} {a : Act} {phi : Nat → Option Nat} {ro : Nat → Prop} (h : Sim w0 mu N s a.tmps w phi ro) (x : Operand) :
    SimV (s.ev (opd x)) (ctx w0 w ro phi s) (a.eval x) := by
  cases x with
  | tmp t => exact h.tms t
  | const v => simp [opd, AS.ev, SimV, Act.eval]
  | global g => simp [opd, AS.ev, SimV, Act.eval]
  | func f => simp [opd, AS.ev, SimV, Act.eval]

theorem kill_mem (s : AS) (r : Nat) (c : Bool × List AV) : (s.mem r c).kill r = s.kill r := by
  simp only [AS.mem, AS.kill, AS.mk.injEq, true_and]
  funext q
  by_cases hq : q = r <;> simp [hq]

theorem kill_hp (s : AS) (r : Nat) : (s.kill r).hp r = none := by simp [AS.kill]

/-- A new block becomes region r. -/
theorem Sim.new {w0 w w' : World} {mu : Nat → Option Nat} {N : Nat} {s : AS} {tm : Array Value} {phi : Nat → Option Nat} {ro : Nat → Prop} (h : Sim w0 mu N s tm w phi ro)
    (hm : More w w') (r : Nat) (hpb : r < pbase) (c : Bool × List AV) {b : Nat} {cur : Array Value} {e : TypeId} (hb1 : w.heap.size ≤ b) (hb2 : w'.heap[b]? = some (.cells cur e (0, 0)))
    (hc : SimR c (ctx w0 w ro phi s) cur.toList) : ∃ phi', phi' r = some b ∧ Sim w0 mu N ((s.kill r).mem r (killR r c)) tm w' phi' ro := by
  have h1 := (h.more_same hm).kill r
  refine ⟨fun q => if q = r then some b else phi q, by simp, h1.born (kill_hp s r) hpb (killR r c) (some b) ⟨fun hr => ?_, .inl (Nat.le_trans h.size hb1), fun q hq hp => ?_, .inl ⟨cur, e, hb2, ?_⟩⟩⟩
  · have := h.rob b hr; omega
  · have hqr : q ≠ r := fun e => by subst e; simp [kill_hp] at hq
    have hq' : (s.hp q).isSome = true := by simpa [AS.kill, hqr] using hq
    obtain ⟨c', hc'⟩ := Option.isSome_iff_exists.1 hq'
    rcases h.liv q c' hc' with ⟨h2, _⟩ | ⟨b', cur', e', h2, h3, _⟩ | ⟨b', o', _, h2, h3, _⟩
    · simp [h2] at hp
    · rw [h2] at hp
      cases hp
      have := lt_of_get h3
      omega
    · rw [h2] at hp
      cases hp
      have := lt_of_get h3
      omega
  · refine hc.kill ⟨fun b hb => ⟨hb, hm.block b (h.rob b hb)⟩, Nat.le_refl _, id, fun _ q hq hl => ?_, fun _ q b cur e _ _ _ hb => ⟨cur, (hm.block b (lt_of_get hb)).trans hb, Nat.le_refl _⟩⟩
    have hqr : q ≠ r := by simpa using hq
    refine ⟨?_, by simp [ctx, hqr]⟩
    simpa [ctx, AS.mem, AS.kill, hqr] using hl

/-- A new object that is no row of cells becomes region r. -/
theorem Sim.newOb2 {w0 w w' : World} {mu : Nat → Option Nat} {N : Nat} {s : AS} {tm : Array Value} {phi : Nat → Option Nat} {ro : Nat → Prop} (h : Sim w0 mu N s tm w phi ro)
    (hm : More w w') (r : Nat) (hpb : r < pbase) {b : Nat} {o : Obj} (hb1 : w.heap.size ≤ b) (hb2 : w'.heap[b]? = some o) (ho : isCells o = false) :
    ∃ phi', phi' r = some b ∧ (∀ q, q ≠ r → phi' q = phi q) ∧ Sim w0 mu N ((s.kill r).mem r (true, [.ob o])) tm w' phi' ro := by
  have h1 := (h.more_same hm).kill r
  refine ⟨fun q => if q = r then some b else phi q, by simp, fun q hq => by simp [hq], h1.born (kill_hp s r) hpb (true, [.ob o]) (some b) ⟨fun hr => ?_, .inl (Nat.le_trans h.size hb1), fun q hq hp => ?_, .inr ⟨o, rfl, hb2, ho⟩⟩⟩
  · have := h.rob b hr; omega
  · have hqr : q ≠ r := fun e => by subst e; simp [kill_hp] at hq
    have hq' : (s.hp q).isSome = true := by simpa [AS.kill, hqr] using hq
    obtain ⟨c', hc'⟩ := Option.isSome_iff_exists.1 hq'
    rcases h.liv q c' hc' with ⟨h2, _⟩ | ⟨b', cur', e', h2, h3, _⟩ | ⟨b', o', _, h2, h3, _⟩
    · simp [h2] at hp
    · rw [h2] at hp
      cases hp
      have := lt_of_get h3
      omega
    · rw [h2] at hp
      cases hp
      have := lt_of_get h3
      omega

theorem Sim.newOb {w0 w w' : World} {mu : Nat → Option Nat} {N : Nat} {s : AS} {tm : Array Value} {phi : Nat → Option Nat} {ro : Nat → Prop} (h : Sim w0 mu N s tm w phi ro)
    (hm : More w w') (r : Nat) (hpb : r < pbase) {b : Nat} {o : Obj} (hb1 : w.heap.size ≤ b) (hb2 : w'.heap[b]? = some o) (ho : isCells o = false) :
    ∃ phi', phi' r = some b ∧ Sim w0 mu N ((s.kill r).mem r (true, [.ob o])) tm w' phi' ro := by
  obtain ⟨phi', h1, _, h2⟩ := h.newOb2 hm r hpb hb1 hb2 ho
  exact ⟨phi', h1, h2⟩

/-- The block of a region is written. -/
theorem Sim.write {w0 w w' : World} {mu : Nat → Option Nat} {N : Nat} {s : AS} {tm : Array Value} {phi : Nat → Option Nat} {ro : Nat → Prop} (h : Sim w0 mu N s tm w phi ro)
    {r : Nat} {c c' : Bool × List AV} (hr : s.hp r = some c) {b : Nat} (hb : phi r = some b) {cur cur' : Array Value} {e : TypeId} (hcell : w.heap[b]? = some (.cells cur e (0, 0)))
    (hw : w'.heap[b]? = some (.cells cur' e (0, 0))) (hsz : cur.size = cur'.size) (hother : ∀ k, k ≠ b → k < w.heap.size → w'.heap[k]? = w.heap[k]?) (hos : w'.os = w.os) (htape : w'.tape = w.tape) (hout : w'.output = w.output)
    (hsize : w.heap.size ≤ w'.heap.size) (hc : SimR c' (ctx w0 w ro phi s) cur'.toList) : Sim w0 mu N (s.mem r c') tm w' phi ro := by
  have hnro : ¬ ro b ∧ (r < pbase ∧ Mine w0 mu b ∨ pbase ≤ r ∧ mu r = some b) := by
    rcases h.liv r c hr with ⟨h1, _⟩ | ⟨b', _, _, h1, _, h2, h3, _⟩ | ⟨b', _, _, h1, _, _, h2, h3⟩
    · simp [h1] at hb
    · rw [hb] at h1; cases h1; exact ⟨h2, h3⟩
    · rw [hb] at h1; cases h1; exact ⟨h2, h3⟩
  have hlv : ∀ q, ((s.mem r c').hp q).isSome = (s.hp q).isSome := by
    intro q
    by_cases hq : q = r
    · subst hq; simp [AS.mem, hr]
    · simp [AS.mem, hq]
  have hle : (ctx w0 w ro phi s).Le (ctx w0 w' ro phi (s.mem r c')) := by
    refine ⟨fun k hk => ⟨hk, hother k (fun e => hnro.1 (e ▸ hk)) (h.rob k hk)⟩, Nat.le_refl _, id, fun _ q _ hl => ⟨by simpa [ctx, hlv] using hl, rfl⟩, fun _ q k cur0 e0 _ _ _ hk => ?_⟩
    by_cases hkb : k = b
    · subst hkb
      have hk' : w.heap[k]? = some (.cells cur0 e0 (0, 0)) := hk
      rw [hcell] at hk'
      cases hk'
      exact ⟨cur', hw, Nat.le_of_eq hsz⟩
    · exact ⟨cur0, (hother k hkb (lt_of_get hk)).trans hk, Nat.le_refl _⟩
  exact {
    os := hos.trans h.os, tape := htape.trans h.tape, output := hout.trans h.output, size := Nat.le_trans h.size hsize
    kept := fun k hk hmu => by
      by_cases hkb : k = b
      · subst hkb
        rcases hnro.2 with ⟨_, h1 | ⟨r', _, h1⟩⟩ | h1
        · omega
        · exact absurd h1 (hmu r')
        · exact absurd h1.2 (hmu r)
      · exact (hother k hkb (Nat.lt_of_lt_of_le hk h.size)).trans (h.kept k hk hmu)
    shp := fun k c0 e0 f0 hk => by
      obtain ⟨c1, g1, g2⟩ := h.shp k c0 e0 f0 hk
      by_cases hkb : k = b
      · subst hkb
        rw [hcell] at g1
        cases g1
        exact ⟨cur', hw, by omega⟩
      · exact ⟨c1, (hother k hkb (lt_of_get g1)).trans g1, g2⟩
    npb := h.npb
    gd := h.gd
    rob := fun k hk => Nat.lt_of_lt_of_le (h.rob k hk) hsize
    inj := fun q q' k hq hq' h1 h2 => h.inj q q' k (by simpa [hlv] using hq) (by simpa [hlv] using hq') h1 h2
    liv := fun q d hq => by
      by_cases hqr : q = r
      · subst hqr
        simp [AS.mem] at hq
        subst hq
        exact .inr (.inl ⟨b, cur', e, hb, hw, hnro.1, hnro.2, hc.mono hle⟩)
      · simp [AS.mem, hqr] at hq
        rcases h.liv q d hq with h1 | ⟨k, cur0, e0, h1, h2, h3, h4, h5⟩ | ⟨k, o0, h0, h1, h2, h3, h4, h5⟩
        · exact .inl h1
        · have hkb : k ≠ b := fun e => hqr (h.inj q r b (by simp [hq]) (by simp [hr]) (e ▸ h1) hb)
          exact .inr (.inl ⟨k, cur0, e0, h1, (hother k hkb (lt_of_get h2)).trans h2, h3, h4, h5.mono hle⟩)
        · have hkb : k ≠ b := fun e => hqr (h.inj q r b (by simp [hq]) (by simp [hr]) (e ▸ h1) hb)
          exact .inr (.inr ⟨k, o0, h0, h1, (hother k hkb (lt_of_get h2)).trans h2, h3, h4, h5⟩)
    tms := fun t => SimV.mono _ _ _ _ hle (h.tms t)
    slots := h.slots }

/-- An object is written. -/
theorem Sim.writeOb {w0 w w' : World} {mu : Nat → Option Nat} {N : Nat} {s : AS} {tm : Array Value} {phi : Nat → Option Nat} {ro : Nat → Prop} (h : Sim w0 mu N s tm w phi ro)
    {r : Nat} {c : Bool × List AV} (hr : s.hp r = some c) {b : Nat} (hb : phi r = some b) {o o' : Obj} (hcell : w.heap[b]? = some o) (hoc : isCells o = false)
    (hw : w'.heap[b]? = some o') (hoc' : isCells o' = false) (hother : ∀ k, k ≠ b → k < w.heap.size → w'.heap[k]? = w.heap[k]?) (hos : w'.os = w.os) (htape : w'.tape = w.tape) (hout : w'.output = w.output)
    (hsize : w.heap.size ≤ w'.heap.size) : Sim w0 mu N (s.mem r (true, [.ob o'])) tm w' phi ro := by
  have hnro : ¬ ro b ∧ (r < pbase ∧ Mine w0 mu b ∨ pbase ≤ r ∧ mu r = some b) := by
    rcases h.liv r c hr with ⟨h1, _⟩ | ⟨b', _, _, h1, _, h2, h3, _⟩ | ⟨b', _, _, h1, _, _, h2, h3⟩
    · simp [h1] at hb
    · rw [hb] at h1; cases h1; exact ⟨h2, h3⟩
    · rw [hb] at h1; cases h1; exact ⟨h2, h3⟩
  have hlv : ∀ q, ((s.mem r (true, [.ob o'])).hp q).isSome = (s.hp q).isSome := by
    intro q
    by_cases hq : q = r
    · subst hq; simp [AS.mem, hr]
    · simp [AS.mem, hq]
  have hle : (ctx w0 w ro phi s).Le (ctx w0 w' ro phi (s.mem r (true, [.ob o']))) := by
    refine ⟨fun k hk => ⟨hk, hother k (fun e => hnro.1 (e ▸ hk)) (h.rob k hk)⟩, Nat.le_refl _, id, fun _ q _ hl => ⟨by simpa [ctx, hlv] using hl, rfl⟩, fun _ q k cur0 e0 _ _ _ hk => ?_⟩
    by_cases hkb : k = b
    · subst hkb
      have hk' : w.heap[k]? = some (.cells cur0 e0 (0, 0)) := hk
      rw [hcell] at hk'
      cases hk'
      simp [isCells] at hoc
    · exact ⟨cur0, (hother k hkb (lt_of_get hk)).trans hk, Nat.le_refl _⟩
  exact {
    os := hos.trans h.os, tape := htape.trans h.tape, output := hout.trans h.output, size := Nat.le_trans h.size hsize
    kept := fun k hk hmu => by
      by_cases hkb : k = b
      · subst hkb
        rcases hnro.2 with ⟨_, h1 | ⟨r', _, h1⟩⟩ | h1
        · omega
        · exact absurd h1 (hmu r')
        · exact absurd h1.2 (hmu r)
      · exact (hother k hkb (Nat.lt_of_lt_of_le hk h.size)).trans (h.kept k hk hmu)
    shp := fun k c0 e0 f0 hk => by
      obtain ⟨c1, g1, g2⟩ := h.shp k c0 e0 f0 hk
      by_cases hkb : k = b
      · subst hkb
        rw [hcell] at g1
        cases g1
        simp [isCells] at hoc
      · exact ⟨c1, (hother k hkb (lt_of_get g1)).trans g1, g2⟩
    npb := h.npb
    gd := h.gd
    rob := fun k hk => Nat.lt_of_lt_of_le (h.rob k hk) hsize
    inj := fun q q' k hq hq' h1 h2 => h.inj q q' k (by simpa [hlv] using hq) (by simpa [hlv] using hq') h1 h2
    liv := fun q d hq => by
      by_cases hqr : q = r
      · subst hqr
        simp [AS.mem] at hq
        subst hq
        exact .inr (.inr ⟨b, o', rfl, hb, hw, hoc', hnro.1, hnro.2⟩)
      · simp [AS.mem, hqr] at hq
        rcases h.liv q d hq with h1 | ⟨k, cur0, e0, h1, h2, h3, h4, h5⟩ | ⟨k, o0, h0, h1, h2, h3, h4, h5⟩
        · exact .inl h1
        · have hkb : k ≠ b := fun e => hqr (h.inj q r b (by simp [hq]) (by simp [hr]) (e ▸ h1) hb)
          exact .inr (.inl ⟨k, cur0, e0, h1, (hother k hkb (lt_of_get h2)).trans h2, h3, h4, h5.mono hle⟩)
        · have hkb : k ≠ b := fun e => hqr (h.inj q r b (by simp [hq]) (by simp [hr]) (e ▸ h1) hb)
          exact .inr (.inr ⟨k, o0, h0, h1, (hother k hkb (lt_of_get h2)).trans h2, h3, h4, h5⟩)
    tms := fun t => SimV.mono _ _ _ _ hle (h.tms t)
    slots := h.slots }

/-- A region's block gets another name. -/
theorem Sim.rename {w0 w : World} {mu : Nat → Option Nat} {N : Nat} {s : AS} {tm : Array Value} {phi : Nat → Option Nat} {ro : Nat → Prop} (h : Sim w0 mu N s tm w phi ro)
    {r q : Nat} {c : Bool × List AV} (hr : s.hp r = some c) (hp : r < pbase) (hpq : q < pbase) {b : Nat} (hb : phi r = some b) :
    ∃ phi', phi' q = some b ∧ Sim w0 mu N (((s.kill r).kill q).mem q (killR q (killR r c))) tm w phi' ro := by
  have hk := (h.kill r).kill q
  have hne : ∀ p, (((s.kill r).kill q).hp p).isSome = true → p ≠ r ∧ p ≠ q ∧ (s.hp p).isSome = true := by
    intro p hp
    have hpq : p ≠ q := fun e => by subst e; simp [kill_hp] at hp
    have hp' : ((s.kill r).hp p).isSome = true := by simpa [AS.kill, hpq] using hp
    have hpr : p ≠ r := fun e => by subst e; simp [kill_hp] at hp'
    exact ⟨hpr, hpq, by simpa [AS.kill, hpr] using hp'⟩
  have hoth : ∀ p, (((s.kill r).kill q).hp p).isSome = true → phi p ≠ some b := by
    intro p hp hpb
    obtain ⟨hpr, _, hps⟩ := hne p hp
    exact hpr (h.inj p r b hps (by simp [hr]) hpb hb)
  rcases h.liv r c hr with ⟨h1, _⟩ | ⟨b', cur, e, h1, h2, h3, h4, h5⟩ | ⟨b', o, rfl, h1, h2, h3, h4, h5⟩
  · simp [h1] at hb
  case inr.inr =>
    rw [hb] at h1
    cases h1
    exact ⟨fun p => if p = q then some b else phi p, by simp, hk.born (kill_hp _ q) hpq _ (some b) ⟨h4, (h5.resolve_right fun h5 => by omega).2, hoth, .inr ⟨o, rfl, h2, h3⟩⟩⟩
  rw [hb] at h1
  cases h1
  refine ⟨fun p => if p = q then some b else phi p, by simp, hk.born (kill_hp _ q) hpq _ (some b) ⟨h3, (h4.resolve_right fun h5 => by omega).2, hoth, .inl ⟨cur, e, h2, ?_⟩⟩⟩
  · have hle : ∀ (s1 s2 : AS) (x : Nat) (phi2 : Nat → Option Nat), (∀ p, p ≠ x → (s1.hp p).isSome = true → (s2.hp p).isSome = true ∧ phi2 p = phi p) → (ctx w0 w ro phi s1).LeOn (fun p => !(p == x)) (ctx w0 w ro phi2 s2) := by
      intro s1 s2 x phi2 hh
      exact ⟨fun b hb => ⟨hb, rfl⟩, Nat.le_refl _, id, fun _ p hp hl => hh p (by simpa using hp) hl, fun _ p b cur e _ _ _ hb => ⟨cur, hb, Nat.le_refl _⟩⟩
    have g1 : SimR (killR r c) (ctx w0 w ro phi (s.kill r)) cur.toList := h5.kill (hle _ _ _ _ fun p hp hl => ⟨by simpa [AS.kill, hp] using hl, rfl⟩)
    exact g1.kill (hle _ _ _ _ fun p hp hl => ⟨by simp [AS.mem, AS.kill, hp] at hl ⊢; exact hl, by simp [hp]⟩)

/-- Where a state leads, seen from the model. -/
def After (w0 : World) (mu : Nat → Option Nat) (N : Nat) (K : AS → Prop) (a : Act) (w : World) : Prop := ∃ s, K s ∧ Simw w0 mu N s a w

theorem put_defers (a : Act) (d : Option Nat) (v : Value) : (a.put d v).defers = a.defers := by cases d <;> rfl

theorem wp_value {P : Program} {o : Oper} {a : Act} {w w' : World} {v : Value} {R : Act → World → Prop} {Q : Exit → Act → World → Prop}
    (hr : (execOp a.eval o).run P w = .ok (.value v) w') (h : R (a.put o.dst v) w') : o.wp P a w R Q := by
  unfold Oper.wp
  rw [hr]
  exact h

theorem After.put {w0 w : World} {mu : Nat → Option Nat} {N : Nat} {s : AS} {a : Act} {phi : Nat → Option Nat} {ro : Nat → Prop} {K : AS → Prop} (hf : a.defers = []) (h : Sim w0 mu N s a.tmps w phi ro)
    {d : Option Nat} (hd : ∀ k, d = some k → k < N) {x : AV} {v : Value} (hx : SimV x (ctx w0 w ro phi s) v) (hK : K (s.put d x)) : After w0 mu N K (a.put d v) w :=
  ⟨_, hK, by rw [put_defers]; exact hf, phi, ro, h.put hd hx⟩

theorem addr_add (b o n : Nat) : (⟨b, o, none⟩ : Addr).add n = ⟨b, o + n, none⟩ := by
  unfold Addr.add
  split
  · rename_i h; subst h; rfl
  · rfl
end Go.Am
