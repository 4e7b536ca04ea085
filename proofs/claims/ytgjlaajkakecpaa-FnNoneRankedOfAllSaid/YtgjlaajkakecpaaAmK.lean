/- The abstract machine, part eleven: a region whose order is open: operations that do not disturb each other may change places. -/
import Derived.Test.YtgjlaajkakecpaaAmJ
namespace Go.Am
variable {P : Program} {w0 w : World} {mu : Nat → Option Nat} {N : Nat} {s : AS} {a : Act} {K : AS → Prop} {Q : Exit → Act → World → Prop}

def Opd.tmps : Opd → List Nat
  | .t n => [n]
  | .c _ => []

/-- 0: reads and writes slots alone; 1: reads memory too; 2: writes memory alone; 3: all else. -/
def AOp.cls : AOp → Nat
  | .mov _ | .pick _ _ _ | .not _ | .neg _ | .bin _ _ _ | .beq _ _ _ | .len _ | .slen _ | .capn _ | .idx _ _ _ | .arr _ _ _ _ | .cut _ _ _ _ | .ext _ _ | .fa _ _ | .nchk _ | .pu _ _ | .mkf _ _ _ | .xcall _ _ => 0
  | .ld _ _ | .call _ _ | .callv _ _ | .mgetk _ _ _ _ _ => 1
  | .st _ _ _ => 2
  | _ => 3

def AOp.sees : AOp → List Nat
  | .mov x | .not x | .neg x | .len x | .slen x | .capn x | .isnil _ x | .ld _ x | .ext x _ | .box _ x | .fa _ x => x.tmps
  | .bin _ x y | .beq _ x y | .idx _ x y | .arr _ _ x y | .st _ x y | .mk _ _ _ x y | .app _ _ x y | .appz _ _ _ x y => x.tmps ++ y.tmps
  | .pick x y z => x.tmps ++ y.tmps ++ z.tmps
  | .cut _ x lo hi => x.tmps ++ (match lo with | some y => y.tmps | none => []) ++ (match hi with | some y => y.tmps | none => [])
  | .call _ args | .pu _ args | .mkf _ _ args | .xcall _ args => args.flatMap Opd.tmps
  | .callv x args => x.tmps ++ args.flatMap Opd.tmps
  | .cpy _ x y => x.tmps ++ y.tmps
  | .cut3 _ x y z => x.tmps ++ y.tmps ++ z.tmps
  | .bts x => x.tmps
  | .rng x => x.tmps
  | .mrg x | .mnx x | .ment x | .mnil _ x => x.tmps
  | .mdel _ x i => x.tmps ++ i.tmps
  | .nchk x => x.tmps
  | .mget _ _ _ x i | .mgetk _ _ _ x i => x.tmps ++ i.tmps
  | .mput _ x i y | .mputk _ x i y => x.tmps ++ i.tmps ++ y.tmps
  | .nxs x => x.tmps
  | .acut _ _ x lo hi => x.tmps ++ (match lo with | some y => y.tmps | none => []) ++ (match hi with | some y => y.tmps | none => [])
  | .dead => []
  | .bsl _ _ _ parts => parts.flatMap fun p => p.2.tmps
  | .nils _ | .alloc _ | .mmk => []

def AOper.sees (o : AOper) : List Nat := o.op.sees ++ (match o.g with | some (t, _) => [t] | none => [])

def AOper.indep (o p : AOper) : Bool :=
  (match o.d with | some d => !p.sees.contains d && p.d != some d | none => true) &&
  (match p.d with | some d => !o.sees.contains d | none => true) &&
  ((decide (o.op.cls ≤ 1) && decide (p.op.cls ≤ 1)) || (o.op.cls == 0 && p.op.cls == 2 && p.d.isNone) || (o.op.cls == 2 && p.op.cls == 0 && o.d.isNone))

theorem AOper.indep_spec {o p : AOper} (h : o.indep p = true) :
    (∀ d, o.d = some d → d ∉ p.sees) ∧ (∀ d, o.d = some d → p.d ≠ some d) ∧ (∀ d, p.d = some d → d ∉ o.sees) ∧
    ((o.op.cls ≤ 1 ∧ p.op.cls ≤ 1) ∨ (o.op.cls = 0 ∧ p.op.cls = 2 ∧ p.d = none) ∨ (o.op.cls = 2 ∧ p.op.cls = 0 ∧ o.d = none)) := by
  unfold AOper.indep at h
  simp only [Bool.and_eq_true, Bool.or_eq_true] at h
  obtain ⟨⟨h1, h2⟩, h3⟩ := h
  refine ⟨fun d hd => ?_, fun d hd => ?_, fun d hd => ?_, ?_⟩
  · rw [hd] at h1; simp at h1; exact h1.1
  · rw [hd] at h1; simp at h1; exact h1.2
  · rw [hd] at h2; simpa using h2
  · rcases h3 with (h3 | h3) | h3
    · exact .inl (by simpa using h3)
    · refine .inr (.inl ?_); simpa [and_assoc] using h3
    · refine .inr (.inr ?_); simpa [and_assoc] using h3

theorem ev_same {s s' : AS} {x : Opd} (h : ∀ t ∈ x.tmps, s'.tm t = s.tm t) : s'.ev x = s.ev x := by
  cases x with
  | t n => exact h n (by simp [Opd.tmps])
  | c v => rfl

theorem put_tm_ne {s : AS} {d : Option Nat} {x : AV} {t : Nat} (h : d ≠ some t) : (s.put d x).tm t = s.tm t := by
  cases d with
  | none => rfl
  | some d =>
    have : t ≠ d := fun e => h (by rw [e])
    simp [AS.put, this]

theorem put_hp (s : AS) (d : Option Nat) (x : AV) : (s.put d x).hp = s.hp := by cases d <;> rfl

theorem put_comm (s : AS) {d e : Option Nat} (x y : AV) (h : ∀ k, d = some k → e ≠ some k) : (s.put d x).put e y = (s.put e y).put d x := by
  cases d with
  | none => rfl
  | some d =>
    cases e with
    | none => rfl
    | some e =>
      have hne : d ≠ e := fun he => h d rfl (by rw [he])
      simp only [AS.put, AS.mk.injEq, and_true]
      funext t
      by_cases h1 : t = e
      · have : ¬ t = d := fun h2 => hne (h2.symm.trans h1)
        simp [h1]
        intro h3
        exact absurd h3.symm hne
      · simp [h1]

/-- What the light operations do. -/
def Light (P : Program) (o : AOper) (s : AS) (x : AV) : Prop :=
  ∀ (s' : AS) (K' : AS → Prop), (∀ t ∈ o.sees, s'.tm t = s.tm t) → (o.op.cls = 0 ∨ s'.hp = s.hp) → K' (s'.put o.d x) → aop1 P false o s' K'

theorem light_op {op : AOp} {d : Option Nat} (hc : op.cls ≤ 1) (hK : aexec P false op d s K) :
    ∃ x, (∀ (s' : AS) (K' : AS → Prop), (∀ t ∈ op.sees, s'.tm t = s.tm t) → (op.cls = 0 ∨ s'.hp = s.hp) → K' (s'.put d x) → aexec P false op d s' K') ∧ K (s.put d x) := by
  cases op <;> simp only [AOp.cls] at hc <;> simp only [aexec] at hK <;> simp only [AOp.sees, AOp.cls, true_or, forall_const]
  case mov x => exact ⟨_, fun s' K' h1 h2 => by simp only [aexec]; rw [ev_same h1]; exact h2, hK⟩
  case pick c x y =>
    obtain ⟨t, h1, h2, h3⟩ := hK
    cases t
    · refine ⟨_, fun s' K' g1 g2 => ⟨false, by rw [ev_same fun t ht => g1 t (by simp [ht])]; exact h1, by simp, fun _ => by rw [ev_same fun t ht => g1 t (by simp [ht])]; exact g2⟩, h3 rfl⟩
    · refine ⟨_, fun s' K' g1 g2 => ⟨true, by rw [ev_same fun t ht => g1 t (by simp [ht])]; exact h1, fun _ => by rw [ev_same fun t ht => g1 t (by simp [ht])]; exact g2, by simp⟩, h2 rfl⟩
  case not x => obtain ⟨t, h1, h2⟩ := hK; exact ⟨_, fun s' K' g1 g2 => ⟨t, by rw [ev_same g1]; exact h1, g2⟩, h2⟩
  case neg x => obtain ⟨k, n, h1, h2⟩ := hK; exact ⟨_, fun s' K' g1 g2 => ⟨k, n, by rw [ev_same g1]; exact h1, g2⟩, h2⟩
  case bin op x y =>
    obtain ⟨p, q, r, h1, h2, h3, h4⟩ := hK
    exact ⟨_, fun s' K' g1 g2 => ⟨p, q, r, by rw [ev_same fun t ht => g1 t (by simp [ht])]; exact h1, by rw [ev_same fun t ht => g1 t (by simp [ht])]; exact h2, h3, g2⟩, h4⟩
  case beq ne x y =>
    obtain ⟨p, q, h1, h2, h3⟩ := hK
    exact ⟨_, fun s' K' g1 g2 => ⟨p, q, by rw [ev_same fun t ht => g1 t (by simp [ht])]; exact h1, by rw [ev_same fun t ht => g1 t (by simp [ht])]; exact h2, g2⟩, h3⟩
  case len x =>
    rcases hK with ⟨r, z, off, n, h1, h2⟩ | ⟨fr, z, cs, n, h1, h2⟩ | ⟨ad, n, c, h1, h2⟩
    · exact ⟨_, fun s' K' g1 g2 => .inl ⟨r, z, off, n, by rw [ev_same g1]; exact h1, g2⟩, h2⟩
    · exact ⟨_, fun s' K' g1 g2 => .inr (.inl ⟨fr, z, cs, n, by rw [ev_same g1]; exact h1, g2⟩), h2⟩
    · exact ⟨_, fun s' K' g1 g2 => .inr (.inr ⟨ad, n, c, by rw [ev_same g1]; exact h1, g2⟩), h2⟩
  case slen x => obtain ⟨b, h1, h2⟩ := hK; exact ⟨_, fun s' K' g1 g2 => ⟨b, by rw [ev_same g1]; exact h1, g2⟩, h2⟩
  case capn x => obtain ⟨b, n, c, h1, h2⟩ := hK; exact ⟨_, fun s' K' g1 g2 => ⟨b, n, c, by rw [ev_same g1]; exact h1, g2⟩, h2⟩
  case idx z x i =>
    obtain ⟨k, j, h1, h2, h3⟩ := hK
    rcases h3 with ⟨r, off, n, h3, h4, h5⟩ | ⟨fr, cs, n, h3, h4, h5⟩
    · exact ⟨_, fun s' K' g1 g2 => ⟨k, j, by rw [ev_same fun t ht => g1 t (by simp [ht])]; exact h1, h2, .inl ⟨r, off, n, by rw [ev_same fun t ht => g1 t (by simp [ht])]; exact h3, h4, g2⟩⟩, h5⟩
    · exact ⟨_, fun s' K' g1 g2 => ⟨k, j, by rw [ev_same fun t ht => g1 t (by simp [ht])]; exact h1, h2, .inr ⟨fr, cs, n, by rw [ev_same fun t ht => g1 t (by simp [ht])]; exact h3, h4, g2⟩⟩, h5⟩
  case arr z n x i =>
    obtain ⟨k, j, h1, h2, h3, h4⟩ := hK
    rcases h4 with ⟨r, off, h4, h5⟩ | ⟨cs, h4, h5⟩
    · exact ⟨_, fun s' K' g1 g2 => ⟨k, j, by rw [ev_same fun t ht => g1 t (by simp [ht])]; exact h1, h2, h3, .inl ⟨r, off, by rw [ev_same fun t ht => g1 t (by simp [ht])]; exact h4, g2⟩⟩, h5⟩
    · exact ⟨_, fun s' K' g1 g2 => ⟨k, j, by rw [ev_same fun t ht => g1 t (by simp [ht])]; exact h1, h2, h3, .inr ⟨cs, by rw [ev_same fun t ht => g1 t (by simp [ht])]; exact h4, g2⟩⟩, h5⟩
  case ld k x =>
    cases k with
    | none =>
      rcases hK with ⟨r, off, fl, cs, c, h1, h2, h3, h4⟩ | ⟨cs, c, h1, h2, h3⟩
      · exact ⟨_, fun s' K' g1 g0 g2 => .inl ⟨r, off, fl, cs, c, by rw [ev_same g1]; exact h1, by rw [g0.resolve_left (by simp)]; exact h2, h3, g2⟩, h4⟩
      · exact ⟨_, fun s' K' g1 g0 g2 => .inr ⟨cs, c, by rw [ev_same g1]; exact h1, h2, g2⟩, h3⟩
    | some k =>
      rcases hK with ⟨r, off, fl, cs, h1, h2, h3, h4⟩ | ⟨cs, h1, h2, h3⟩
      · exact ⟨_, fun s' K' g1 g0 g2 => .inl ⟨r, off, fl, cs, by rw [ev_same g1]; exact h1, by rw [g0.resolve_left (by simp)]; exact h2, h3, g2⟩, h4⟩
      · exact ⟨_, fun s' K' g1 g0 g2 => .inr ⟨cs, by rw [ev_same g1]; exact h1, h2, g2⟩, h3⟩
  case cut z x lo hi =>
    obtain ⟨l, hh, h1, h2⟩ := hK
    have hb : ∀ (s' : AS) (y : Option Opd) (n m : Nat), (∀ t ∈ (match y with | some y => y.tmps | none => []), s'.tm t = s.tm t) → Bnd s y n m → Bnd s' y n m := by
      intro s' y n m hs hb
      cases y with
      | none => exact hb
      | some y =>
        obtain ⟨k, hk⟩ := hb
        exact ⟨k, by rw [ev_same hs]; exact hk⟩
    rcases h2 with ⟨r, off, n, h2, h3, h4, h5, h6⟩ | ⟨fr, cs, n, h2, h3, h4, h5, h6⟩ | ⟨h2, h3, h4, h5, h6⟩
    · exact ⟨_, fun s' K' g1 g2 => ⟨l, hh, hb s' lo _ _ (fun t ht => g1 t (by simp [ht])) h1, .inl ⟨r, off, n, by rw [ev_same fun t ht => g1 t (by simp [ht])]; exact h2, hb s' hi _ _ (fun t ht => g1 t (by simp [ht])) h3, h4, h5, g2⟩⟩, h6⟩
    · exact ⟨_, fun s' K' g1 g2 => ⟨l, hh, hb s' lo _ _ (fun t ht => g1 t (by simp [ht])) h1, .inr (.inl ⟨fr, cs, n, by rw [ev_same fun t ht => g1 t (by simp [ht])]; exact h2, hb s' hi _ _ (fun t ht => g1 t (by simp [ht])) h3, h4, h5, g2⟩)⟩, h6⟩
    · exact ⟨_, fun s' K' g1 g2 => ⟨l, hh, hb s' lo _ _ (fun t ht => g1 t (by simp [ht])) h1, .inr (.inr ⟨by rw [ev_same fun t ht => g1 t (by simp [ht])]; exact h2, h3, h4, hb s' hi _ _ (fun t ht => g1 t (by simp [ht])) h5, g2⟩)⟩, h6⟩
  case call f args =>
    by_cases h6 : ∃ res, SpR P f (args.map s.ev) res ∧ K (s.put d res)
    · obtain ⟨res, k1, k2⟩ := h6
      refine ⟨res, fun s' K' g1 g0 g2 => .inr (.inr (.inr (.inr (.inr ⟨res, ?_, g2⟩)))), k2⟩
      have : args.map s'.ev = args.map s.ev := List.map_congr_left fun x hx => ev_same fun t ht => g1 t (List.mem_flatMap.2 ⟨x, hx, ht⟩)
      rw [this]
      exact k1
    obtain ⟨as, res, h1, h2, h3⟩ := hK.resolve_right (fun hh => by rcases hh with hh | hh | hh | hh | hh; cases hh.1; cases hh.1; cases hh.1; cases hh.1; exact h6 hh)
    rcases h3 with h3 | ⟨h0, _⟩
    · refine ⟨_, fun s' K' g1 g0 g2 => .inl ⟨as, res, h1, ?_, .inl g2⟩, h3⟩
      have : args.map s'.ev = args.map s.ev := List.map_congr_left fun x hx => ev_same fun t ht => g1 t (List.mem_flatMap.2 ⟨x, hx, ht⟩)
      rw [this, g0.resolve_left (by simp)]
      exact h2
    · cases h0
  case callv x args =>
    rcases hK with ⟨f, hx, hcb, hK⟩ | ⟨f, l, k, hx, hcb, hK⟩
    · by_cases h6 : ∃ res, SpR P f (args.map s.ev) res ∧ K (s.put d res)
      · obtain ⟨res, k1, k2⟩ := h6
        refine ⟨res, fun s' K' g1 g0 g2 => .inl ⟨f, by rw [ev_same fun t ht => g1 t (by simp [ht])]; exact hx, hcb, .inr (.inr (.inr (.inr (.inr ⟨res, ?_, g2⟩))))⟩, k2⟩
        have : args.map s'.ev = args.map s.ev := List.map_congr_left fun x hx => ev_same fun t ht => g1 t (List.mem_append_right _ (List.mem_flatMap.2 ⟨x, hx, ht⟩))
        rw [this]
        exact k1
      obtain ⟨as, res, h1, h2, h3⟩ := hK.resolve_right (fun hh => by rcases hh with hh | hh | hh | hh | hh; cases hh.1; cases hh.1; cases hh.1; cases hh.1; exact h6 hh)
      rcases h3 with h3 | ⟨h0, _⟩
      · refine ⟨_, fun s' K' g1 g0 g2 => .inl ⟨f, by rw [ev_same fun t ht => g1 t (by simp [ht])]; exact hx, hcb, .inl ⟨as, res, h1, ?_, .inl g2⟩⟩, h3⟩
        have : args.map s'.ev = args.map s.ev := List.map_congr_left fun x hx => ev_same fun t ht => g1 t (List.mem_append_right _ (List.mem_flatMap.2 ⟨x, hx, ht⟩))
        rw [this, g0.resolve_left (by simp)]
        exact h2
      · cases h0
    · by_cases h6 : ∃ res, SpR P f (l.take k ++ args.map s.ev ++ l.drop k) res ∧ K (s.put d res)
      · obtain ⟨res, k1, k2⟩ := h6
        refine ⟨res, fun s' K' g1 g0 g2 => .inr ⟨f, l, k, by rw [ev_same fun t ht => g1 t (by simp [ht])]; exact hx, hcb, .inr (.inr (.inr (.inr (.inr ⟨res, ?_, g2⟩))))⟩, k2⟩
        have : args.map s'.ev = args.map s.ev := List.map_congr_left fun x hx => ev_same fun t ht => g1 t (List.mem_append_right _ (List.mem_flatMap.2 ⟨x, hx, ht⟩))
        rw [this]
        exact k1
      obtain ⟨as, res, h1, h2, h3⟩ := hK.resolve_right (fun hh => by rcases hh with hh | hh | hh | hh | hh; cases hh.1; cases hh.1; cases hh.1; cases hh.1; exact h6 hh)
      rcases h3 with h3 | ⟨h0, _⟩
      · refine ⟨_, fun s' K' g1 g0 g2 => .inr ⟨f, l, k, by rw [ev_same fun t ht => g1 t (by simp [ht])]; exact hx, hcb, .inl ⟨as, res, h1, ?_, .inl g2⟩⟩, h3⟩
        have : args.map s'.ev = args.map s.ev := List.map_congr_left fun x hx => ev_same fun t ht => g1 t (List.mem_append_right _ (List.mem_flatMap.2 ⟨x, hx, ht⟩))
        rw [this, g0.resolve_left (by simp)]
        exact h2
      · cases h0
  case mkf f k args =>
    refine ⟨_, fun s' K' g1 g2 => ?_, hK⟩
    have : args.map s'.ev = args.map s.ev := List.map_congr_left fun x hx => ev_same fun t ht => g1 t (List.mem_flatMap.2 ⟨x, hx, ht⟩)
    simp only [aexec]
    rw [this]
    exact g2
  case pu g args =>
    obtain ⟨r, h1, h2⟩ := hK
    refine ⟨_, fun s' K' g1 g2 => ⟨r, ?_, g2⟩, h2⟩
    have : args.map s'.ev = args.map s.ev := List.map_congr_left fun x hx => ev_same fun t ht => g1 t (List.mem_flatMap.2 ⟨x, hx, ht⟩)
    rw [this]
    exact h1
  case xcall f args =>
    obtain ⟨fn, e, vs, v, h1, h2, h3, h4, h5, h6, h7, h8⟩ := hK
    refine ⟨_, fun s' K' g1 g2 => ⟨fn, e, vs, v, h1, h2, h3, h4, h5, ?_, h7, g2⟩, h8⟩
    have : args.map s'.ev = args.map s.ev := List.map_congr_left fun x hx => ev_same fun t ht => g1 t (List.mem_flatMap.2 ⟨x, hx, ht⟩)
    rw [this]
    exact h6
  case mgetk kt z ok x i =>
    obtain ⟨h0, es, clock, kv, h1, h2, h3, h4, x, h5, h6, h7⟩ := hK
    refine ⟨x, fun s' K' g1 g0 g2 => ⟨h0, es, clock, kv, ?_, by rw [ev_same fun t ht => g1 t (by simp [ht])]; exact h2, h3, h4, x, h5, h6, g2⟩, h7⟩
    rw [ev_same fun t ht => g1 t (by simp [ht])]
    unfold MapAt at h1 ⊢
    rw [g0.resolve_left (by simp)]
    exact h1
  case ext x i => obtain ⟨l, c, h1, h2, h3⟩ := hK; exact ⟨_, fun s' K' g1 g2 => ⟨l, c, by rw [ev_same g1]; exact h1, h2, g2⟩, h3⟩
  case nchk x =>
    rcases hK with ⟨r, o', h1, h2⟩ | ⟨cs, h1, h2⟩
    · exact ⟨_, fun s' K' g1 g2 => .inl ⟨r, o', by rw [ev_same g1]; exact h1, g2⟩, h2⟩
    · exact ⟨_, fun s' K' g1 g2 => .inr ⟨cs, by rw [ev_same g1]; exact h1, g2⟩, h2⟩
  case fa off x =>
    rcases hK with ⟨r, o', h1, h2⟩ | ⟨cs, h1, h2⟩
    · exact ⟨_, fun s' K' g1 g2 => .inl ⟨r, o', by rw [ev_same g1]; exact h1, g2⟩, h2⟩
    · exact ⟨_, fun s' K' g1 g2 => .inr ⟨cs, by rw [ev_same g1]; exact h1, g2⟩, h2⟩
  all_goals (exact absurd hc (by decide))

theorem light1 {o : AOper} (hc : o.op.cls ≤ 1) (hK : aop1 P false o s K) : ∃ x, Light P o s x ∧ K (s.put o.d x) := by
  obtain ⟨d, op, g⟩ := o
  unfold aop1 at hK
  cases g with
  | none =>
    obtain ⟨x, h1, h2⟩ := light_op hc hK
    refine ⟨x, fun s' K' g1 g0 g2 => ?_, h2⟩
    unfold aop1
    exact h1 s' K' (fun t ht => g1 t (by simp [AOper.sees, ht])) g0 g2
  | some tw =>
    obtain ⟨t, wt⟩ := tw
    simp only at hK
    rcases hK with ⟨b, hb, h1, h2⟩ | ⟨hb, h2⟩
    · by_cases hbw : b = wt
      · obtain ⟨x, h3, h4⟩ := light_op hc (h1 hbw)
        refine ⟨x, fun s' K' g1 g0 g2 => ?_, h4⟩
        unfold aop1
        refine .inl ⟨b, by rw [g1 t (by simp [AOper.sees])]; exact hb, fun _ => h3 s' K' (fun t ht => g1 t (by simp [AOper.sees, ht])) g0 g2, fun e => ?_⟩
        rw [e] at hbw; cases wt <;> simp at hbw
      · have hbn : b = !wt := by cases b <;> cases wt <;> simp_all
        refine ⟨.v undef, fun s' K' g1 g0 g2 => ?_, h2 hbn⟩
        unfold aop1
        exact .inl ⟨b, by rw [g1 t (by simp [AOper.sees])]; exact hb, fun e => absurd e hbw, fun _ => g2⟩
    · refine ⟨.v undef, fun s' K' g1 g0 g2 => ?_, h2⟩
      unfold aop1
      exact .inr ⟨by rw [g1 t (by simp [AOper.sees])]; exact hb, g2⟩

def AS.upd (s : AS) (g : Option (Nat × (Bool × List AV))) : AS :=
  match g with
  | none => s
  | some (r, c) => s.mem r c

theorem upd_tm (s : AS) (g : Option (Nat × (Bool × List AV))) : (s.upd g).tm = s.tm := by cases g <;> rfl
theorem upd_put (s : AS) (g : Option (Nat × (Bool × List AV))) (d : Option Nat) (x : AV) : (s.upd g).put d x = (s.put d x).upd g := by
  cases g <;> cases d <;> rfl

def Stores (P : Program) (o : AOper) (s : AS) (g : Option (Nat × (Bool × List AV))) : Prop :=
  ∀ (s' : AS) (K' : AS → Prop), (∀ t ∈ o.sees, s'.tm t = s.tm t) → s'.hp = s.hp → K' (s'.upd g) → aop1 P false o s' K'

theorem store1 {o : AOper} (hc : o.op.cls = 2) (hd : o.d = none) (hK : aop1 P false o s K) : ∃ g, Stores P o s g ∧ K (s.upd g) := by
  obtain ⟨d, op, g⟩ := o
  simp only at hd
  subst hd
  have key : aexec P false op none s K → ∃ r c, (∀ (s' : AS) (K' : AS → Prop), (∀ t ∈ op.sees, s'.tm t = s.tm t) → s'.hp = s.hp → K' (s'.mem r c) → aexec P false op none s' K') ∧ K (s.mem r c) := by
    intro hK
    cases op <;> simp only [AOp.cls] at hc <;> first | (exact absurd hc (by decide)) | skip
    rename_i k x y _
    obtain ⟨r, off, fl, cs, h1, h2, h3⟩ := hK
    rcases h3 with ⟨h3, h4, h5, h6⟩ | ⟨l, h3, h4, h5, h6, h7⟩
    · refine ⟨_, _, fun s' K' g1 g0 g2 => ?_, h6⟩
      simp only [AOp.sees] at g1
      have e1 : s'.ev x = s.ev x := ev_same fun t ht => g1 t (by simp [ht])
      have e2 : s'.ev y = s.ev y := ev_same fun t ht => g1 t (by simp [ht])
      exact ⟨r, off, fl, cs, by rw [e1]; exact h1, by rw [g0]; exact h2, .inl ⟨h3, h4, by rw [e2]; exact h5, by rw [e2]; exact g2⟩⟩
    · refine ⟨_, _, fun s' K' g1 g0 g2 => ?_, h7⟩
      simp only [AOp.sees] at g1
      have e1 : s'.ev x = s.ev x := ev_same fun t ht => g1 t (by simp [ht])
      have e2 : s'.ev y = s.ev y := ev_same fun t ht => g1 t (by simp [ht])
      exact ⟨r, off, fl, cs, by rw [e1]; exact h1, by rw [g0]; exact h2, .inr ⟨l, by rw [e2]; exact h3, h4, h5, h6, g2⟩⟩
  unfold aop1 at hK
  cases g with
  | none =>
    obtain ⟨r, c, h1, h2⟩ := key hK
    refine ⟨some (r, c), fun s' K' g1 g0 g2 => ?_, h2⟩
    unfold aop1
    exact h1 s' K' (fun t ht => g1 t (by simp [AOper.sees, ht])) g0 g2
  | some tw =>
    obtain ⟨t, wt⟩ := tw
    simp only at hK
    rcases hK with ⟨b, hb, h1, h2⟩ | ⟨hb, h2⟩
    · by_cases hbw : b = wt
      · obtain ⟨r, c, h3, h4⟩ := key (h1 hbw)
        refine ⟨some (r, c), fun s' K' g1 g0 g2 => ?_, h4⟩
        unfold aop1
        refine .inl ⟨b, by rw [g1 t (by simp [AOper.sees])]; exact hb, fun _ => h3 s' K' (fun t ht => g1 t (by simp [AOper.sees, ht])) g0 g2, fun e => ?_⟩
        rw [e] at hbw; cases wt <;> simp at hbw
      · have hbn : b = !wt := by cases b <;> cases wt <;> simp_all
        refine ⟨none, fun s' K' g1 g0 g2 => ?_, h2 hbn⟩
        unfold aop1
        exact .inl ⟨b, by rw [g1 t (by simp [AOper.sees])]; exact hb, fun e => absurd e hbw, fun _ => g2⟩
    · refine ⟨none, fun s' K' g1 g0 g2 => ?_, h2⟩
      unfold aop1
      exact .inr ⟨by rw [g1 t (by simp [AOper.sees])]; exact hb, g2⟩

/-- Two operations that do not disturb each other change places. -/
theorem swap {o p : AOper} (h : o.indep p = true) (hK : aop1 P false o s fun s1 => aop1 P false p s1 K) : aop1 P false p s fun s2 => aop1 P false o s2 K := by
  obtain ⟨h1, h2, h3, h4⟩ := AOper.indep_spec h
  have hne : ∀ k, p.d = some k → o.d ≠ some k := fun k hk e => h2 k e hk
  rcases h4 with ⟨c1, c2⟩ | ⟨c1, c2, hd⟩ | ⟨c1, c2, hd⟩
  · obtain ⟨x, hx, hK⟩ := light1 c1 hK
    obtain ⟨y, hy, hK⟩ := light1 c2 hK
    refine hy s _ (fun t ht => (put_tm_ne fun e => h1 t e ht).symm) (.inr (put_hp _ _ _).symm) ?_
    refine hx _ _ (fun t ht => put_tm_ne fun e => h3 t e ht) (.inr (put_hp _ _ _)) ?_
    rw [put_comm _ _ _ hne]
    exact hK
  · obtain ⟨x, hx, hK⟩ := light1 (by omega) hK
    obtain ⟨g, hg, hK⟩ := store1 c2 hd hK
    refine hg s _ (fun t ht => (put_tm_ne fun e => h1 t e ht).symm) (put_hp _ _ _).symm ?_
    refine hx _ _ (fun t ht => by rw [upd_tm]) (.inl c1) ?_
    rw [upd_put]
    exact hK
  · obtain ⟨g, hg, hK⟩ := store1 c1 hd hK
    obtain ⟨y, hy, hK⟩ := light1 (by omega) hK
    refine hy s _ (fun t ht => by rw [upd_tm]) (.inl c2) ?_
    refine hg _ _ (fun t ht => put_tm_ne fun e => h3 t e ht) (put_hp _ _ _) ?_
    rw [← upd_put]
    exact hK

theorem acall_some {own : Bool} {f : FuncId} {xs : List AV} {d : Option Nat} (hK : acallA P own f xs d s K) : ∃ s', K s' := by
  unfold acallA at hK
  rcases hK with ⟨as, res, h1, h2, h3⟩ | ⟨h0, r, z, n, cs, as, res, cs', h1, h2, h3, h4, h5, h6, h7, h8⟩ | ⟨h0, as, hin, ι, ok, res, hout, g, hp', h1, h2, ⟨i, hi⟩, h4⟩ | ⟨h0, as, hin, res, hout, g, p, hp', h1, h2, h3, h4⟩ | ⟨h0, r, x, g, h1, h2, h3, h4, h5⟩ | ⟨res, h1, h2⟩
  · rcases h3 with h3 | ⟨h0, r, z, cs, n, h3, h4, h5⟩
    · exact ⟨_, h3⟩
    · rcases h5 with ⟨h5, h6⟩ | ⟨rest, h5, h6, h7⟩
      · exact ⟨_, h6⟩
      · exact ⟨_, h7⟩
  · exact ⟨_, h8⟩
  · exact ⟨_, (h4 i hi).2⟩
  · exact ⟨_, h4⟩
  · exact ⟨_, h5⟩
  · exact ⟨_, h2⟩

theorem aop1_some {o : AOper} {own : Bool} (hK : aop1 P own o s K) : ∃ s', K s' := by
  have key : aexec P own o.op o.d s K → ∃ s', K s' := by
    intro hK
    generalize o.op = op at hK
    cases op <;> simp only [aexec] at hK
    case mov => exact ⟨_, hK⟩
    case nils => rcases hK with h1 | ⟨r, h1, h2⟩; exact ⟨_, h1⟩; exact ⟨_, h2⟩
    case pick => obtain ⟨t, h1, h2, h3⟩ := hK; cases t; exact ⟨_, h3 rfl⟩; exact ⟨_, h2 rfl⟩
    case not => obtain ⟨t, h1, h2⟩ := hK; exact ⟨_, h2⟩
    case neg => obtain ⟨k, n, h1, h2⟩ := hK; exact ⟨_, h2⟩
    case bin => obtain ⟨p, q, r, h1, h2, h3, h4⟩ := hK; exact ⟨_, h4⟩
    case beq => obtain ⟨p, q, h1, h2, h3⟩ := hK; exact ⟨_, h3⟩
    case len =>
      rcases hK with ⟨r, z, off, n, h1, h2⟩ | ⟨fr, z, cs, n, h1, h2⟩ | ⟨ad, n, c, h1, h2⟩ <;> exact ⟨_, h2⟩
    case isnil =>
      rcases hK with ⟨c, h0, h1⟩ | ⟨n, h0, h1, h2⟩
      · exact ⟨_, h1⟩
      by_cases hn : n = 0
      · exact ⟨_, h2 hn true⟩
      · exact ⟨_, h1 (by omega)⟩
    case slen => obtain ⟨b, h1, h2⟩ := hK; exact ⟨_, h2⟩
    case capn => obtain ⟨b, n, c, h1, h2⟩ := hK; exact ⟨_, h2⟩
    case idx =>
      obtain ⟨k, j, h1, h2, h3⟩ := hK
      rcases h3 with ⟨r, off, n, h3, h4, h5⟩ | ⟨fr, cs, n, h3, h4, h5⟩ <;> exact ⟨_, h5⟩
    case arr =>
      obtain ⟨k, j, h1, h2, h3, h4⟩ := hK
      rcases h4 with ⟨r, off, h4, h5⟩ | ⟨cs, h4, h5⟩ <;> exact ⟨_, h5⟩
    case ld k x =>
      cases k with
      | none => rcases hK with ⟨r, off, fl, cs, c, h1, h2, h3, h4⟩ | ⟨cs, c, h1, h2, h3⟩; exact ⟨_, h4⟩; exact ⟨_, h3⟩
      | some k => rcases hK with ⟨r, off, fl, cs, h1, h2, h3, h4⟩ | ⟨cs, h1, h2, h3⟩; exact ⟨_, h4⟩; exact ⟨_, h3⟩
    case st =>
      obtain ⟨r, off, fl, cs, h1, h2, h3⟩ := hK
      rcases h3 with ⟨h3, h4, h5, h6⟩ | ⟨l, h3, h4, h5, h6, h7⟩; exact ⟨_, h6⟩; exact ⟨_, h7⟩
    case mk => obtain ⟨r, kl, kc, n, m, h1, h2, h3, h4, h5, h6, h7, h8⟩ := hK; exact ⟨_, h8⟩
    case cut =>
      obtain ⟨l, hh, h1, h2⟩ := hK
      rcases h2 with ⟨r, off, n, h2, h3, h4, h5, h6⟩ | ⟨fr, cs, n, h2, h3, h4, h5, h6⟩ | ⟨h2, h3, h4, h5, h6⟩ <;> exact ⟨_, h6⟩
    case appz => obtain ⟨r, kl, m, h1, h2, h3, h4, h5, h6, h7⟩ := hK; exact ⟨_, h7⟩
    case app => rcases hK with ⟨q, r, n, m, fl, cs, ys, h1, h2, h3, h4, h5, h6, h7, h8, h9, h10⟩ | ⟨q, n, m, cs, ys, h1, h2, h3, h4, h5, h6, h7, h8⟩; exact ⟨_, h10⟩; exact ⟨_, h8⟩
    case cut3 => obtain ⟨fr, cs, n, k, k', h1, h2, h3, h4⟩ := hK; exact ⟨_, h4⟩
    case call => exact acall_some hK
    case callv => rcases hK with ⟨f, _, _, h3⟩ | ⟨f, l, k, _, _, h3⟩ <;> exact acall_some h3
    case mkf => exact ⟨_, hK⟩
    case pu => obtain ⟨r, h1, h2⟩ := hK; exact ⟨_, h2⟩
    case cpy => obtain ⟨r, off, n, fl, cs, m, ys, h1, h2, h3, h4, h5, h6, h7⟩ := hK; exact ⟨_, h7⟩
    case bts => obtain ⟨bs, h1, h2⟩ := hK; exact ⟨_, h2⟩
    case rng => obtain ⟨r, b, h1, h2, h3⟩ := hK; exact ⟨_, h3⟩
    case nxs =>
      obtain ⟨r, b, p, h1, h2, h3, h4⟩ := hK
      by_cases hp : b.size ≤ p
      · exact ⟨_, h3 hp⟩
      · exact ⟨_, h4 (by omega)⟩
    case acut => obtain ⟨r, off, l, hh, fl, cs, h1, h2, h3, h4, h5, h6, h7, h8, h9⟩ := hK; exact ⟨_, h9⟩
    case ext => obtain ⟨l, c, h1, h2, h3⟩ := hK; exact ⟨_, h3⟩
    case alloc => obtain ⟨r, fl, h1, h2⟩ := hK; exact ⟨_, h2⟩
    case box =>
      obtain ⟨r, fl, h1, h2⟩ := hK
      rcases h2 with ⟨h2, h3, h4⟩ | ⟨l, h2, h3, h4⟩ <;> exact ⟨_, h4⟩
    case bsl => obtain ⟨r, fl, out, h1, h2, h3⟩ := hK; exact ⟨_, h3⟩
    case mmk => obtain ⟨r, h1, h2⟩ := hK; exact ⟨_, h2⟩
    case mget k z ok x i =>
      obtain ⟨r, es, clock, j, h1, h2, h3, h4, h5, h6⟩ := hK
      by_cases hh : ∀ e ∈ es.toList, e.key ≠ .int k j
      · exact ⟨_, h6 hh⟩
      · obtain ⟨e, he⟩ := Classical.not_forall.1 hh
        obtain ⟨he, hk⟩ := Classical.not_imp.1 he
        exact ⟨_, h5 e he (Classical.not_not.1 hk)⟩
    case mput k x i y =>
      obtain ⟨r, es, clock, j, v, h1, h2, h3, h4, h5, h6, h7⟩ := hK
      by_cases hh : ∀ e ∈ es.toList, e.key ≠ .int k j
      · exact ⟨_, h7 hh⟩
      · obtain ⟨e, he⟩ := Classical.not_forall.1 hh
        obtain ⟨he, hk⟩ := Classical.not_imp.1 he
        obtain ⟨n, hn⟩ := List.mem_iff_getElem?.1 he
        exact ⟨_, h6 n e hn (Classical.not_not.1 hk)⟩
    case mgetk => obtain ⟨_, es, clock, kv, h1, h2, h3, h4, x, h5, h6, h7⟩ := hK; exact ⟨_, h7⟩
    case mputk kt x i y =>
      obtain ⟨_, r, es, clock, kv, v, h1, h2, h3, h4, h5, h6, h7, h8⟩ := hK
      by_cases hh : ∀ e ∈ es.toList, e.key ≠ kv
      · exact ⟨_, h8 hh⟩
      · obtain ⟨e, he⟩ := Classical.not_forall.1 hh
        obtain ⟨he, hk⟩ := Classical.not_imp.1 he
        obtain ⟨n, hn⟩ := List.mem_iff_getElem?.1 he
        exact ⟨_, h7 n e hn (Classical.not_not.1 hk)⟩
    case mrg => rcases hK with ⟨r, _, ⟨q, es, clock, _, _, _, h⟩ | ⟨fr, es, clock, _, h⟩⟩ <;> exact ⟨_, h 0⟩
    case mnx =>
      obtain ⟨r, m, bm, es0, ck0, since, seen, c0, es, clock, h1, h2, h3, h4, h5, h6, h7⟩ := hK
      by_cases hh : ∀ e ∈ es.toList, seen.contains e.born = true
      · exact ⟨_, h6 hh⟩
      · obtain ⟨e, he⟩ := Classical.not_forall.1 hh
        obtain ⟨he, hk⟩ := Classical.not_imp.1 he
        exact ⟨_, h7 e he (by simpa using hk)⟩
    case ment => obtain ⟨r, m, bm, es0, ck0, since, seen, es, clock, e, ka, va, _, _, _, _, _, _, _, h⟩ := hK; exact ⟨_, h⟩
    case mdel kt x i =>
      obtain ⟨_, r, es, clock, kv, h1, h2, h3, h5, h6, h7, h8⟩ := hK
      by_cases hh : ∀ e ∈ es.toList, e.key ≠ kv
      · exact ⟨_, h8 hh⟩
      · obtain ⟨e, he⟩ := Classical.not_forall.1 hh
        obtain ⟨he, hk⟩ := Classical.not_imp.1 he
        obtain ⟨n, hn⟩ := List.mem_iff_getElem?.1 he
        exact ⟨_, h7 n e hn (Classical.not_not.1 hk)⟩
    case mnil => exact ⟨_, hK.2⟩
    case xcall => obtain ⟨fn, e, vs, v, h1, h2, h3, h4, h5, h6, h7, h8⟩ := hK; exact ⟨_, h8⟩
    case nchk => rcases hK with ⟨r, off, h1, h2⟩ | ⟨cs, h1, h2⟩ <;> exact ⟨_, h2⟩
    case fa => rcases hK with ⟨r, off, h1, h2⟩ | ⟨cs, h1, h2⟩ <;> exact ⟨_, h2⟩
  unfold aop1 at hK
  split at hK
  · exact key hK
  · rename_i t wt _
    rcases hK with ⟨b, h1, h2, h3⟩ | ⟨h1, h2⟩
    · by_cases hb : b = wt
      · exact key (h2 hb)
      · exact ⟨_, h3 (by cases b <;> cases wt <;> simp_all)⟩
    · exact ⟨_, h2⟩

/-- A call of a function that is lent regions of mine (the seat names such functions). -/
def AOper.lent (o : AOper) : Bool :=
  match o.op, o.g with
  | .call f _, none => ownF.contains f
  | .callv _ _, none => ownFV
  | _, _ => false
/-- A call whose result is appended to. -/
def AOper.owner0 (aos : List AOper) (o : AOper) : Bool :=
  match o.op, o.d, o.g with
  | .call _ _, some d, none => aos.any fun p => match p.op with
    | .app _ _ (.t q) _ => q == d
    | .callv _ args => ownFV && args.any fun a => match a with | .t q => q == d | .c _ => false
    | _ => false
  | _, _, _ => false
def AOper.owner (aos : List AOper) (o : AOper) : Bool := o.lent || o.owner0 aos
def AOper.isCall (o : AOper) : Bool :=
  match o.op, o.g with
  | .call _ _, none => true
  | _, _ => false
/-- A move (or what is made of numbers) may be taken ahead of a call that is lent regions. -/
def AOper.easy (o p : AOper) : Bool :=
  match o.op, o.d, o.g with
  | .mov x, some d, none => p.isCall && (p.lent || ownFV) && !p.sees.contains d && p.d != some d && (match p.d with | some e => !x.tmps.contains e | none => true)
  | .bin _ x y, some d, none => p.isCall && ownFV && !p.sees.contains d && p.d != some d && (match p.d with | some e => !x.tmps.contains e && !y.tmps.contains e | none => true)
  | _, _, _ => false
/-- A call whose result becomes a region of mine. -/
def aown (P : Program) (o : AOper) (s : AS) (K : AS → Prop) : Prop :=
  ∃ r f args as z cs n, o = ⟨some r, .call f args, none⟩ ∧ Sp P f as (.ro true z cs n) ∧ Lends s.hp (args.map s.ev) as ∧ cs.all plainV = true ∧ K (((s.kill r).mem r (true, cs)).put (some r) (.sl r z 0 n))
theorem aown_aop1 {o : AOper} (h : aown P o s K) : aop1 P true o s K := by
  obtain ⟨r, f, args, as, z, cs, n, rfl, h1, h2, h3, h4⟩ := h
  exact .inl ⟨as, _, h1, h2, .inr ⟨rfl, r, z, cs, n, rfl, h3, .inl ⟨rfl, h4⟩⟩⟩
theorem aown_mono {o : AOper} {K K' : AS → Prop} (h : ∀ s, K s → K' s) (hK : aown P o s K) : aown P o s K' := by
  obtain ⟨r, f, args, as, z, cs, n, h0, h1, h2, h3, h4⟩ := hK
  exact ⟨r, f, args, as, z, cs, n, h0, h1, h2, h3, h _ h4⟩
theorem killV_v {r : Nat} : ∀ {x : AV} {y : Value}, killV r x = .v y → x = .v y
  | .v _, _, h => by simpa [killV] using h
  | .sl q _ _ _, _, h => by simp only [killV] at h; split at h <;> cases h
  | .pt q _, _, h => by simp only [killV] at h; split at h <;> cases h
  | .mp q, _, h => by simp only [killV] at h; split at h <;> cases h
  | .itr q, _, h => by simp only [killV] at h; split at h <;> cases h
  | .agg _, _, h => by simp only [killV] at h; cases h
  | .tup _, _, h => by simp only [killV] at h; cases h
  | .any, _, h => by simp only [killV] at h; cases h
  | .ro _ _ _ _, _, h => by simp only [killV] at h; cases h
  | .rp _, _, h => by simp only [killV] at h; cases h
  | .ob _, _, h => by simp only [killV] at h; cases h
  | .fn _ _ _, _, h => by simp only [killV] at h; cases h
  | .rmp _ _ _, _, h => by simp only [killV] at h; cases h
  | .fu _ _ _, _, h => by simp only [killV] at h; cases h
  | .mit q _ _ _ _, _, h => by simp only [killV] at h; split at h <;> cases h
theorem killV_ro {r : Nat} {fr : Bool} {z n : Nat} {cs : List AV} : ∀ {x : AV}, killV r x = .ro fr z cs n → x = .ro fr z cs n
  | .ro _ _ _ _, h => by simpa [killV] using h
  | .v _, h => by simp only [killV] at h; cases h
  | .sl q _ _ _, h => by simp only [killV] at h; split at h <;> cases h
  | .pt q _, h => by simp only [killV] at h; split at h <;> cases h
  | .mp q, h => by simp only [killV] at h; split at h <;> cases h
  | .itr q, h => by simp only [killV] at h; split at h <;> cases h
  | .agg _, h => by simp only [killV] at h; cases h
  | .tup _, h => by simp only [killV] at h; cases h
  | .any, h => by simp only [killV] at h; cases h
  | .rp _, h => by simp only [killV] at h; cases h
  | .ob _, h => by simp only [killV] at h; cases h
  | .fn _ _ _, h => by simp only [killV] at h; cases h
  | .rmp _ _ _, h => by simp only [killV] at h; cases h
  | .fu _ _ _, h => by simp only [killV] at h; cases h
  | .mit q _ _ _ _, h => by simp only [killV] at h; split at h <;> cases h
theorem killV_sl {r q z o n : Nat} : ∀ {x : AV}, killV r x = .sl q z o n → x = .sl q z o n ∧ q ≠ r
  | .sl q' _ _ _, h => by
    simp only [killV] at h
    split at h
    · cases h
    · rename_i hne; cases h; exact ⟨rfl, hne⟩
  | .v _, h => by simp only [killV] at h; cases h
  | .ro _ _ _ _, h => by simp only [killV] at h; cases h
  | .pt q _, h => by simp only [killV] at h; split at h <;> cases h
  | .mp q, h => by simp only [killV] at h; split at h <;> cases h
  | .itr q, h => by simp only [killV] at h; split at h <;> cases h
  | .agg _, h => by simp only [killV] at h; cases h
  | .tup _, h => by simp only [killV] at h; cases h
  | .any, h => by simp only [killV] at h; cases h
  | .rp _, h => by simp only [killV] at h; cases h
  | .ob _, h => by simp only [killV] at h; cases h
  | .fn _ _ _, h => by simp only [killV] at h; cases h
  | .rmp _ _ _, h => by simp only [killV] at h; cases h
  | .fu _ _ _, h => by simp only [killV] at h; cases h
  | .mit q _ _ _ _, h => by simp only [killV] at h; split at h <;> cases h
/-- Does the move or the cut p not disturb the call o? -/
def AOper.movs (o p : AOper) : Bool :=
  p.g.isNone && (match p.op with | .mov _ | .cut _ _ _ _ => true | _ => false) &&
  (match o.d with | some r => !p.sees.contains r && p.d != some r | none => false) && (match p.d with | some d => !o.sees.contains d | none => false)
theorem own_ev {r : Nat} {c : Bool × List AV} {v : AV} {x : Opd} (h : r ∉ x.tmps) : (((s.kill r).mem r c).put (some r) v).ev x = killV r (s.ev x) := by
  cases x with
  | t n =>
    have hn : n ≠ r := fun e => h (by simp [Opd.tmps, e])
    show (if n = r then v else killV r (s.tm n)) = _
    rw [if_neg hn]; rfl
  | c w => simp [AS.ev, killV]
theorem own_bnd {r : Nat} {c : Bool × List AV} {v : AV} {x : Option Opd} {l d : Nat} (h : ∀ y, x = some y → r ∉ y.tmps) (hb : Bnd (((s.kill r).mem r c).put (some r) v) x l d) : Bnd s x l d := by
  cases x with
  | none => exact hb
  | some y =>
    obtain ⟨k, hk⟩ := hb
    rw [own_ev (h y rfl)] at hk
    exact ⟨k, killV_v hk⟩
theorem own_state {r d : Nat} {c : Bool × List AV} {v x : AV} (h : d ≠ r) : (((s.put (some d) x).kill r).mem r c).put (some r) v = (((s.kill r).mem r c).put (some r) v).put (some d) (killV r x) := by
  unfold AS.put AS.mem AS.kill
  simp only [AS.mk.injEq, and_true]
  funext t
  by_cases h1 : t = r
  · subst h1
    rw [if_pos rfl, if_neg (Ne.symm h), if_pos rfl]
  · rw [if_neg h1]
    by_cases h2 : t = d
    · subst h2; rw [if_pos rfl, if_pos rfl]
    · rw [if_neg h2, if_neg h2, if_neg h1]
theorem swap_own {o p : AOper} (h : o.movs p = true) (hK : aown P o s fun s1 => aop1 P false p s1 K) : aop1 P false p s fun s2 => aown P o s2 K := by
  obtain ⟨r, f, args, as, z, cs, n, rfl, h1, h2, h3, h4⟩ := hK
  obtain ⟨d, op, g⟩ := p
  unfold AOper.movs at h
  simp only [Bool.and_eq_true, Option.isNone_iff_eq_none] at h
  obtain ⟨⟨⟨hg, hop⟩, hd⟩, ha⟩ := h
  subst hg
  cases d with
  | none => simp at ha
  | some d =>
  have hdr : d ≠ r := fun e => by subst e; simp at hd
  have hsees : r ∉ (⟨some d, op, none⟩ : AOper).sees := by
    have := hd.1
    simpa using this
  have hargs : ∀ x ∈ args, d ∉ x.tmps := by
    intro x hx hm
    have : (⟨some r, .call f args, none⟩ : AOper).sees.contains d = true := by
      simp only [AOper.sees, AOp.sees, List.append_nil, List.contains_iff_mem, List.mem_flatMap]
      exact ⟨x, hx, hm⟩
    have ha2 : (!(⟨some r, .call f args, none⟩ : AOper).sees.contains d) = true := ha
    rw [this] at ha2
    cases ha2
  have fin : ∀ y : AV, K ((((s.kill r).mem r (true, cs)).put (some r) (.sl r z 0 n)).put (some d) (killV r y)) → aown P ⟨some r, .call f args, none⟩ (s.put (some d) y) K := by
    intro y hy
    refine ⟨r, f, args, as, z, cs, n, rfl, h1, ?_, h3, ?_⟩
    · have e : args.map (s.put (some d) y).ev = args.map s.ev := List.map_congr_left fun x hx => ev_same fun t ht => put_tm_ne fun e => by cases e; exact hargs x hx ht
      rw [e, put_hp]
      exact h2
    · rw [own_state hdr]
      exact hy
  unfold aop1 at h4 ⊢
  cases op <;> simp at hop
  case mov x =>
    simp only [aexec] at h4 ⊢
    have hx : r ∉ x.tmps := by simpa [AOper.sees, AOp.sees] using hsees
    rw [own_ev hx] at h4
    exact fin _ h4
  case cut zz x lo hi =>
    simp only [aexec] at h4 ⊢
    simp only [AOper.sees, AOp.sees, List.append_nil, List.mem_append, not_or] at hsees
    obtain ⟨⟨hx, hlo⟩, hhi⟩ := hsees
    have hlo' : ∀ y, lo = some y → r ∉ y.tmps := fun y e => by subst e; exact hlo
    have hhi' : ∀ y, hi = some y → r ∉ y.tmps := fun y e => by subst e; exact hhi
    obtain ⟨l, hh, hbl, h5⟩ := h4
    rw [own_ev hx] at h5
    refine ⟨l, hh, own_bnd hlo' hbl, ?_⟩
    rcases h5 with ⟨q, off, m, h5, h6, h7, h8, h9⟩ | ⟨fr, cs', m, h5, h6, h7, h8, h9⟩ | ⟨h5, h6, h7, h8, h9⟩
    · obtain ⟨h10, h11⟩ := killV_sl h5
      refine .inl ⟨q, off, m, h10, own_bnd hhi' h6, h7, h8, fin _ ?_⟩
      simp only [killV]
      rw [if_neg h11]
      exact h9
    · refine .inr (.inl ⟨fr, cs', m, killV_ro h5, own_bnd hhi' h6, h7, h8, fin _ ?_⟩)
      simp only [killV]
      exact h9
    · refine .inr (.inr ⟨killV_v h5, h6, h7, own_bnd hhi' h8, fin _ ?_⟩)
      simp only [killV]
      exact h9

section
variable {ops : Array Oper} {aos : List AOper}

/-- Every order that the edges allow. -/
def aAny (P : Program) (ops : Array Oper) (aos : List AOper) (R : AS → Prop) : Nat → Array Bool → AS → Prop
  | 0, listed, s => Region.ready .any ops listed = [] ∧ R s
  | fuel + 1, listed, s =>
    (Region.ready .any ops listed = [] → R s) ∧
    ∀ i ∈ Region.ready .any ops listed, ∃ ao, aos[i]? = some ao ∧ aop1 P (ao.owner aos) ao s (aAny P ops aos R fuel (listed.setIfInBounds i true))

def Compiled (P : Program) (N : Nat) (ops : Array Oper) (aos : List AOper) : Prop :=
  ∀ (i : Nat) (o : Oper), ops[i]? = some o → ∃ ao, aos[i]? = some ao ∧ cop P N ops o = some ao

theorem aAny_sound {R : AS → Prop} (hc : Compiled P N ops aos) (hQ : ∀ a w, After w0 mu N R a w → Q .normal a w) : ∀ (fuel : Nat) (listed : Array Bool) (s : AS) (a : Act) (w : World),
    Simw w0 mu N s a w → aAny P ops aos R fuel listed s → wpAny P .any ops Q fuel listed a w := by
  intro fuel
  induction fuel with
  | zero => intro listed s a w hS h; exact ⟨h.1, hQ _ _ ⟨s, h.2, hS⟩⟩
  | succ fuel ih =>
    intro listed s a w hS h
    refine ⟨fun h0 => hQ _ _ ⟨s, h.1 h0, hS⟩, fun i hi => ?_⟩
    obtain ⟨ao, h1, h2⟩ := h.2 i hi
    obtain ⟨_, o, ho, _⟩ := mem_ready.1 hi
    obtain ⟨ao', h3, h4⟩ := hc i o ho
    rw [h1] at h3
    cases h3
    refine op1_ok ho h4 hS (fun a' w' hA => ?_) h2
    obtain ⟨s', h5, h6⟩ := hA
    exact ih _ s' a' w' h6 h5

theorem swap_easyM {own : Bool} {x : Opd} {d : Nat} {p : AOper} (h : (⟨some d, .mov x, none⟩ : AOper).easy p = true) (hK : aop1 P false ⟨some d, .mov x, none⟩ s fun s1 => aop1 P own p s1 K) : aop1 P own p s fun s2 => aop1 P false ⟨some d, .mov x, none⟩ s2 K := by
  obtain ⟨pd, pop, pg⟩ := p
  unfold AOper.easy at h
  simp only [Bool.and_eq_true, Bool.not_eq_true', bne_iff_ne, ne_eq] at h
  obtain ⟨⟨⟨⟨h1, hx0⟩, h2⟩, h3⟩, h4⟩ := h
  unfold AOper.isCall at h1
  simp only at h1
  split at h1
  rotate_left
  · cases h1
  rename_i f args
  have hsees : ∀ a ∈ args, d ∉ a.tmps := fun a ha ht => by
    have : (AOper.sees ⟨pd, .call f args, none⟩).contains d = true := by
      simp only [AOper.sees, AOp.sees, List.append_nil, List.contains_iff_mem, List.mem_flatMap]
      exact ⟨a, ha, ht⟩
    rw [this] at h2; cases h2
  have hargs : args.map (s.put (some d) (s.ev x)).ev = args.map s.ev := List.map_congr_left fun a ha => ev_same fun t ht => put_tm_ne fun e => by cases e; exact hsees a ha ht
  have hx : ∀ (e : Nat), pd = some e → e ∉ x.tmps := fun e he ht => by
    rw [he] at h4
    simp only [Bool.not_eq_true'] at h4
    have : x.tmps.contains e = true := by simpa using ht
    rw [this] at h4; cases h4
  have hxe : ∀ (s' : AS) (y : AV), s'.tm = s.tm → (s'.put pd y).ev x = s.ev x := fun s' y hs => ev_same fun t ht => by
    rw [put_tm_ne fun e => hx t e ht, hs]
  have hcomm : ∀ (s' : AS) (y : AV), (s'.put (some d) (s.ev x)).put pd y = (s'.put pd y).put (some d) (s.ev x) := fun s' y => put_comm _ _ _ fun k hk e => by cases hk; exact h3 e
  have hK' : acallA P own f (args.map (s.put (some d) (s.ev x)).ev) pd (s.put (some d) (s.ev x)) K := hK
  rw [hargs] at hK'
  show acallA P own f (args.map s.ev) pd s fun s2 => K (s2.put (some d) (s2.ev x))
  have hkill : ∀ (r : Nat) (c : Bool × List AV) (v : AV), pd = some r → (((s.kill r).mem r c).put (some r) v).ev x = killV r (s.ev x) := fun r c v hr => own_ev (hx r hr)
  have hst : ∀ (r : Nat) (c : Bool × List AV) (v : AV), pd = some r → ((((s.put (some d) (s.ev x)).kill r).mem r c).put (some r) v) = (((s.kill r).mem r c).put (some r) v).put (some d) (killV r (s.ev x)) := fun r c v hr => own_state fun e => by subst e; exact h3 hr
  rcases hK' with ⟨as, res, k1, k2, k3⟩ | ⟨k0, r, z, n, cs, as, res, cs', k1, k2, k3, k4, k5, k6, k7, k8⟩ | ⟨k0, as, hin, ι, ok, res, hout, g, hp', k1, k2, k3, k4⟩ | ⟨k0, as, hin, res, hout, g, p, hp', k1, k2, k3, k4⟩ | ⟨k0, r, z, g, k1, k2, k3, k4, k5⟩ | ⟨res, k1, k2⟩
  · refine .inl ⟨as, res, k1, k2, ?_⟩
    rcases k3 with k3 | ⟨k0, r, z, cs, n, k4, k5, k6⟩
    · rw [hcomm] at k3
      exact .inl (by dsimp only; rw [hxe s res rfl]; exact k3)
    · refine .inr ⟨k0, r, z, cs, n, k4, k5, ?_⟩
      subst k4
      rcases k6 with ⟨k6, k7⟩ | ⟨rest, k6, k7, k8⟩
      · refine .inl ⟨k6, ?_⟩
        rw [hst r _ _ rfl] at k7
        dsimp only
        rw [hkill r _ _ rfl]
        exact k7
      · refine .inr ⟨rest, k6, k7, ?_⟩
        rw [hst r _ _ rfl] at k8
        dsimp only
        rw [hkill r _ _ rfl]
        exact k8
  · refine .inr (.inl ⟨k0, r, z, n, cs, as, res, cs', k1, k2, k3, k4, k5, k6, k7, ?_⟩)
    have e : (((s.put (some d) (s.ev x)).mem r (true, cs')).put pd res) = (((s.mem r (true, cs')).put pd res).put (some d) (s.ev x)) := hcomm (s.mem r (true, cs')) res
    rw [e] at k8
    dsimp only
    rw [hxe (s.mem r (true, cs')) res rfl]
    exact k8
  · refine .inr (.inr (.inl ⟨k0, as, hin, ι, ok, res, hout, g, hp', k1, k2, k3, fun i hi => ?_⟩))
    obtain ⟨k5, k6⟩ := k4 i hi
    refine ⟨⟨k5.has, k5.inj, k5.stay, k5.fresh, k5.new, k5.old, k5.ownI, k5.ownO, k5.ownR⟩, ?_⟩
    have e : AS.put ⟨(s.put (some d) (s.ev x)).tm, hp' i⟩ pd (renV g (res i)) = (AS.put ⟨s.tm, hp' i⟩ pd (renV g (res i))).put (some d) (s.ev x) := hcomm ⟨s.tm, hp' i⟩ (renV g (res i))
    rw [e] at k6
    dsimp only
    rw [hxe ⟨s.tm, hp' i⟩ (renV g (res i)) rfl]
    exact k6
  · refine .inr (.inr (.inr (.inl ⟨k0, as, hin, res, hout, g, p, hp', k1, k2, ⟨k3.has, k3.gone, k3.own, k3.injI, k3.inj, k3.stay, k3.lt, k3.fresh, k3.new, k3.old, k3.ownI, k3.ownO, k3.ownR⟩, ?_⟩)))
    have e0 : AS.mk ((s.put (some d) (s.ev x)).drop p).tm hp' = (AS.mk (s.drop p).tm hp').put (some d) (dropV p (s.ev x)) := by
      simp only [AS.put, AS.drop, AS.mk.injEq, and_true]
      funext t
      by_cases e : t = d <;> simp [e]
    have e1 : (s.drop p).ev x = dropV p (s.ev x) := by cases x <;> simp [AS.ev, AS.drop, dropV]
    have e2 : (AS.put ⟨(s.drop p).tm, hp'⟩ pd (renV g res)).ev x = (s.drop p).ev x := ev_same fun t ht => put_tm_ne fun e => hx t e ht
    rw [e0, put_comm _ _ _ fun k hk e => by cases hk; exact h3 e] at k4
    dsimp only
    rw [e2, e1]
    exact k4
  · subst k2
    refine .inr (.inr (.inr (.inr (.inl ⟨k0, r, z, g, k1, rfl, k3, k4, ?_⟩))))
    rw [hst r _ _ rfl] at k5
    dsimp only
    rw [hkill r _ _ rfl]
    exact k5
  · refine .inr (.inr (.inr (.inr (.inr ⟨res, k1, ?_⟩))))
    rw [hcomm] at k2
    dsimp only
    rw [hxe s res rfl]
    exact k2

theorem swap_easyB {own : Bool} {op : BinOp} {x y : Opd} {d : Nat} {p : AOper} (h : (⟨some d, .bin op x y, none⟩ : AOper).easy p = true) (hK : aop1 P false ⟨some d, .bin op x y, none⟩ s fun s1 => aop1 P own p s1 K) : aop1 P own p s fun s2 => aop1 P false ⟨some d, .bin op x y, none⟩ s2 K := by
  obtain ⟨pd, pop, pg⟩ := p
  unfold AOper.easy at h
  simp only [Bool.and_eq_true, Bool.not_eq_true', bne_iff_ne, ne_eq] at h
  obtain ⟨⟨⟨⟨h1, hx0⟩, h2⟩, h3⟩, h4⟩ := h
  unfold AOper.isCall at h1
  simp only at h1
  split at h1
  rotate_left
  · cases h1
  rename_i f args
  have hsees : ∀ a ∈ args, d ∉ a.tmps := fun a ha ht => by
    have : (AOper.sees ⟨pd, .call f args, none⟩).contains d = true := by
      simp only [AOper.sees, AOp.sees, List.append_nil, List.contains_iff_mem, List.mem_flatMap]
      exact ⟨a, ha, ht⟩
    rw [this] at h2; cases h2
  obtain ⟨va, vb, vr, ha, hb, hr, hK⟩ := hK
  have hxy : ∀ (e : Nat), pd = some e → e ∉ x.tmps ∧ e ∉ y.tmps := fun e he => by
    rw [he] at h4
    simp only [Bool.and_eq_true, Bool.not_eq_true'] at h4
    refine ⟨fun ht => ?_, fun ht => ?_⟩
    · have : x.tmps.contains e = true := by simpa using ht
      rw [this] at h4; cases h4.1
    · have : y.tmps.contains e = true := by simpa using ht
      rw [this] at h4; cases h4.2
  have hargs : args.map (s.put (some d) (.v vr)).ev = args.map s.ev := List.map_congr_left fun a ha => ev_same fun t ht => put_tm_ne fun e => by cases e; exact hsees a ha ht
  have fin : ∀ s2 : AS, s2.ev x = .v va → s2.ev y = .v vb → K (s2.put (some d) (.v vr)) → aop1 P false ⟨some d, .bin op x y, none⟩ s2 K := fun s2 h1 h2 h3 => ⟨va, vb, vr, h1, h2, hr, h3⟩
  have hxe : ∀ (s' : AS) (z : AV), s'.tm = s.tm → (s'.put pd z).ev x = .v va ∧ (s'.put pd z).ev y = .v vb := fun s' z hs => by
    rw [← ha, ← hb]
    exact ⟨ev_same fun t ht => by rw [put_tm_ne fun e => (hxy t e).1 ht, hs], ev_same fun t ht => by rw [put_tm_ne fun e => (hxy t e).2 ht, hs]⟩
  have hcomm : ∀ (s' : AS) (z : AV), (s'.put (some d) (.v vr)).put pd z = (s'.put pd z).put (some d) (.v vr) := fun s' z => put_comm _ _ _ fun k hk e => by cases hk; exact h3 e
  have hK' : acallA P own f (args.map (s.put (some d) (.v vr)).ev) pd (s.put (some d) (.v vr)) K := hK
  rw [hargs] at hK'
  show acallA P own f (args.map s.ev) pd s fun s2 => aop1 P false ⟨some d, .bin op x y, none⟩ s2 K
  have hkill : ∀ (r : Nat) (c : Bool × List AV) (v : AV), pd = some r → (((s.kill r).mem r c).put (some r) v).ev x = .v va ∧ (((s.kill r).mem r c).put (some r) v).ev y = .v vb := fun r c v hr => by
    rw [own_ev (hxy r hr).1, own_ev (hxy r hr).2, ha, hb]
    simp [killV]
  have hst : ∀ (r : Nat) (c : Bool × List AV) (v : AV), pd = some r → ((((s.put (some d) (.v vr)).kill r).mem r c).put (some r) v) = (((s.kill r).mem r c).put (some r) v).put (some d) (.v vr) := fun r c v hr => by
    rw [own_state fun e => by subst e; exact h3 hr]
    simp [killV]
  rcases hK' with ⟨as, res, k1, k2, k3⟩ | ⟨k0, r, z, n, cs, as, res, cs', k1, k2, k3, k4, k5, k6, k7, k8⟩ | ⟨k0, as, hin, ι, ok, res, hout, g, hp', k1, k2, k3, k4⟩ | ⟨k0, as, hin, res, hout, g, p, hp', k1, k2, k3, k4⟩ | ⟨k0, r, z, g, k1, k2, k3, k4, k5⟩ | ⟨res, k1, k2⟩
  · refine .inl ⟨as, res, k1, k2, ?_⟩
    rcases k3 with k3 | ⟨k0, r, z, cs, n, k4, k5, k6⟩
    · rw [hcomm] at k3
      exact .inl (fin _ (hxe s res rfl).1 (hxe s res rfl).2 k3)
    · refine .inr ⟨k0, r, z, cs, n, k4, k5, ?_⟩
      subst k4
      rcases k6 with ⟨k6, k7⟩ | ⟨rest, k6, k7, k8⟩
      · refine .inl ⟨k6, ?_⟩
        rw [hst r _ _ rfl] at k7
        exact fin _ (hkill r _ _ rfl).1 (hkill r _ _ rfl).2 k7
      · refine .inr ⟨rest, k6, k7, ?_⟩
        rw [hst r _ _ rfl] at k8
        exact fin _ (hkill r _ _ rfl).1 (hkill r _ _ rfl).2 k8
  · refine .inr (.inl ⟨k0, r, z, n, cs, as, res, cs', k1, k2, k3, k4, k5, k6, k7, ?_⟩)
    have e : (((s.put (some d) (.v vr)).mem r (true, cs')).put pd res) = (((s.mem r (true, cs')).put pd res).put (some d) (.v vr)) := hcomm (s.mem r (true, cs')) res
    rw [e] at k8
    exact fin _ (hxe (s.mem r (true, cs')) res rfl).1 (hxe (s.mem r (true, cs')) res rfl).2 k8
  · refine .inr (.inr (.inl ⟨k0, as, hin, ι, ok, res, hout, g, hp', k1, k2, k3, fun i hi => ?_⟩))
    obtain ⟨k5, k6⟩ := k4 i hi
    refine ⟨⟨k5.has, k5.inj, k5.stay, k5.fresh, k5.new, k5.old, k5.ownI, k5.ownO, k5.ownR⟩, ?_⟩
    have e : AS.put ⟨(s.put (some d) (.v vr)).tm, hp' i⟩ pd (renV g (res i)) = (AS.put ⟨s.tm, hp' i⟩ pd (renV g (res i))).put (some d) (.v vr) := hcomm ⟨s.tm, hp' i⟩ (renV g (res i))
    rw [e] at k6
    exact fin _ (hxe ⟨s.tm, hp' i⟩ (renV g (res i)) rfl).1 (hxe ⟨s.tm, hp' i⟩ (renV g (res i)) rfl).2 k6
  · refine .inr (.inr (.inr (.inl ⟨k0, as, hin, res, hout, g, p, hp', k1, k2, ⟨k3.has, k3.gone, k3.own, k3.injI, k3.inj, k3.stay, k3.lt, k3.fresh, k3.new, k3.old, k3.ownI, k3.ownO, k3.ownR⟩, ?_⟩)))
    have e0 : AS.mk ((s.put (some d) (.v vr)).drop p).tm hp' = (AS.mk (s.drop p).tm hp').put (some d) (.v vr) := by
      simp only [AS.put, AS.drop, AS.mk.injEq, and_true]
      funext t
      by_cases e : t = d <;> simp [e, dropV]
    have e1 : ∀ z : Opd, (s.drop p).ev z = dropV p (s.ev z) := fun z => by cases z <;> simp [AS.ev, AS.drop, dropV]
    have e2 : (AS.put ⟨(s.drop p).tm, hp'⟩ pd (renV g res)).ev x = (s.drop p).ev x := ev_same fun t ht => put_tm_ne fun e => (hxy t e).1 ht
    have e3 : (AS.put ⟨(s.drop p).tm, hp'⟩ pd (renV g res)).ev y = (s.drop p).ev y := ev_same fun t ht => put_tm_ne fun e => (hxy t e).2 ht
    rw [e0, put_comm _ _ _ fun k hk e => by cases hk; exact h3 e] at k4
    exact fin _ (by rw [e2, e1, ha]; simp [dropV]) (by rw [e3, e1, hb]; simp [dropV]) k4
  · subst k2
    refine .inr (.inr (.inr (.inr (.inl ⟨k0, r, z, g, k1, rfl, k3, k4, ?_⟩))))
    rw [hst r _ _ rfl] at k5
    exact fin _ (hkill r _ _ rfl).1 (hkill r _ _ rfl).2 k5
  · refine .inr (.inr (.inr (.inr (.inr ⟨res, k1, ?_⟩))))
    rw [hcomm] at k2
    exact fin _ (hxe s res rfl).1 (hxe s res rfl).2 k2
theorem swap_easy {own : Bool} {o p : AOper} (h : o.easy p = true) (hK : aop1 P false o s fun s1 => aop1 P own p s1 K) : aop1 P own p s fun s2 => aop1 P false o s2 K := by
  obtain ⟨od, oop, og⟩ := o
  cases oop <;> first | (simp [AOper.easy] at h; done) | skip
  · cases od <;> cases og <;> first | (simp [AOper.easy] at h; done) | exact swap_easyM h hK
  · cases od <;> cases og <;> first | (simp [AOper.easy] at h; done) | exact swap_easyB h hK

/-- Does o leave p alone, and p o? -/
def AOper.pass (aos : List AOper) (o p : AOper) : Bool := (o.indep p && !p.owner aos) || o.easy p
theorem swap_pass {o p : AOper} (h : o.pass aos p = true) (hK : aop1 P false o s fun s1 => aop1 P (p.owner aos) p s1 K) : aop1 P (p.owner aos) p s fun s2 => aop1 P false o s2 K := by
  unfold AOper.pass at h
  simp only [Bool.or_eq_true, Bool.and_eq_true, Bool.not_eq_true'] at h
  rcases h with ⟨h1, h2⟩ | h
  · rw [h2] at hK ⊢
    exact swap h1 hK
  · exact swap_easy h hK

/-- i may be taken first: whatever is still to come comes behind it or is not disturbed. -/
def freeAt (ops : Array Oper) (aos : List AOper) (listed : Array Bool) (i : Nat) : Bool :=
  match aos[i]? with
  | none => false
  | some oi => !oi.owner aos && (List.range ops.size).all fun j => j == i || listed.getD j true ||
    (match ops[j]?, aos[j]? with
     | some oj, some aj => oj.after.any (fun e => Region.binds .any e && e.on == i) || oi.pass aos aj
     | _, _ => false)

theorem freeAt_spec {i : Nat} {oi : AOper} {listed : Array Bool} (hi : aos[i]? = some oi) (h : freeAt ops aos listed i = true) (j : Nat) (oj : Oper) (aj : AOper)
    (hj : ops[j]? = some oj) (haj : aos[j]? = some aj) (hne : j ≠ i) (hun : listed.getD j true = false) (hno : ∀ e ∈ oj.after, Region.binds .any e = true → e.on ≠ i) : oi.pass aos aj = true := by
  simp only [freeAt, hi, Bool.and_eq_true, List.all_eq_true, List.mem_range] at h
  have h1 := h.2 j (Array.getElem?_eq_some_iff.1 hj).1
  simp only [hj, haj, Bool.or_eq_true, Bool.and_eq_true, Bool.not_eq_true', beq_iff_eq, hne, false_or, hun, Bool.false_eq_true] at h1
  rcases h1 with h1 | h1
  · obtain ⟨e, he, hb⟩ := Array.any_eq_true'.1 h1
    simp only [Bool.and_eq_true, beq_iff_eq] at hb
    exact absurd hb.2 (hno e he hb.1)
  · exact h1
theorem freeAt_own {i : Nat} {oi : AOper} {listed : Array Bool} (hi : aos[i]? = some oi) (h : freeAt ops aos listed i = true) : oi.owner aos = false := by
  simp only [freeAt, hi, Bool.and_eq_true, Bool.not_eq_true'] at h
  exact h.1

theorem freeAt_less {i j : Nat} {listed : Array Bool} (h : freeAt ops aos listed i = true) : freeAt ops aos (listed.setIfInBounds j true) i = true := by
  unfold freeAt at *
  cases hi : aos[i]? with
  | none => rw [hi] at h; exact h
  | some oi =>
    rw [hi] at h
    simp only [Bool.and_eq_true, List.all_eq_true, List.mem_range] at h ⊢
    refine ⟨h.1, ?_⟩
    intro k hk
    have h1 := h.2 k hk
    simp only [Bool.or_eq_true] at h1 ⊢
    rcases h1 with (h1 | h1) | h1
    · exact .inl (.inl h1)
    · refine .inl (.inr ?_)
      by_cases hjk : j = k
      · subst hjk
        rcases Nat.lt_or_ge j listed.size with h' | h'
        · simp [h']
        · simp [h']
      · rw [getD_set_ne true hjk]; exact h1
    · exact .inr h1

theorem aAny_take {R : AS → Prop} (hc : Compiled P N ops aos) {i : Nat} {oi : AOper} (hi : aos[i]? = some oi) : ∀ (fuel : Nat) (listed : Array Bool) (s : AS), freeAt ops aos listed i = true →
    i ∈ Region.ready .any ops listed → aop1 P false oi s (aAny P ops aos R fuel (listed.setIfInBounds i true)) → aAny P ops aos R (fuel + 1) listed s := by
  intro fuel
  induction fuel with
  | zero =>
    intro listed s hfree hr H
    have hno := freeAt_own hi hfree
    refine ⟨fun h => (by rw [h] at hr; cases hr), fun j hj => ?_⟩
    by_cases hji : j = i
    · subst hji; exact ⟨oi, hi, by rw [hno]; exact H⟩
    · have := ready_mono hj hji
      obtain ⟨s', h1⟩ := aop1_some H
      rw [h1.1] at this
      cases this
  | succ fuel ih =>
    intro listed s hfree hr H
    have hno := freeAt_own hi hfree
    refine ⟨fun h => (by rw [h] at hr; cases hr), fun j hj => ?_⟩
    by_cases hji : j = i
    · subst hji; exact ⟨oi, hi, by rw [hno]; exact H⟩
    · obtain ⟨hjun, oj, hoj, hall⟩ := mem_ready.1 hj
      obtain ⟨aj, haj, _⟩ := hc j oj hoj
      have hnot : ∀ e ∈ oj.after, Region.binds .any e = true → e.on ≠ i := fun e he hb heq => by
        have h1 := hall e he hb
        have h0 := (mem_ready.1 hr).1
        rw [heq] at h1
        rcases Nat.lt_or_ge i listed.size with h' | h'
        · simp [h'] at h0 h1; rw [h0] at h1; cases h1
        · simp [Array.getElem?_eq_none h'] at h1
      have hind := freeAt_spec hi hfree j oj aj hoj haj hji hjun hnot
      refine ⟨aj, haj, ?_⟩
      have h1 : aop1 P false oi s fun s1 => aop1 P (aj.owner aos) aj s1 (aAny P ops aos R fuel ((listed.setIfInBounds i true).setIfInBounds j true)) := by
        refine aop1_mono (fun s1 h => ?_) H
        obtain ⟨ao, g1, g2⟩ := h.2 j (ready_mono hj hji)
        rw [haj] at g1
        cases g1
        exact g2
      refine aop1_mono (fun s2 h => ?_) (swap_pass hind h1)
      refine ih (listed.setIfInBounds j true) s2 (freeAt_less hfree) (ready_mono hr (Ne.symm hji)) ?_
      rw [Array.setIfInBounds_comm _ _ hji]
      exact h

/-- j comes behind i: by an edge, or by edges over others. -/
def behindN (ops : Array Oper) (i : Nat) : Nat → Nat → Bool
  | 0, _ => false
  | n + 1, j => match ops[j]? with
    | none => false
    | some oj => oj.after.any fun e => Region.binds .any e && (e.on == i || behindN ops i n e.on)
theorem behindN_edge {i n j : Nat} (h : behindN ops i (n + 1) j = true) : ∃ oj e, ops[j]? = some oj ∧ e ∈ oj.after ∧ Region.binds .any e = true ∧ (e.on = i ∨ behindN ops i n e.on = true) := by
  unfold behindN at h
  split at h
  · cases h
  · rename_i oj hoj
    obtain ⟨e, he, hb⟩ := Array.any_eq_true'.1 h
    simp only [Bool.and_eq_true, Bool.or_eq_true, beq_iff_eq] at hb
    exact ⟨oj, e, hoj, he, hb.1, hb.2⟩
theorem behindN_mono {i : Nat} : ∀ {n j : Nat}, behindN ops i n j = true → behindN ops i (n + 1) j = true := by
  intro n
  induction n with
  | zero => intro j h; simp [behindN] at h
  | succ n ih =>
    intro j h
    obtain ⟨oj, e, h1, h2, h3, h4⟩ := behindN_edge h
    unfold behindN
    rw [h1]
    refine Array.any_eq_true'.2 ⟨e, h2, ?_⟩
    simp only [Bool.and_eq_true, Bool.or_eq_true, beq_iff_eq]
    exact ⟨h3, h4.imp id ih⟩
/-- i may be taken first: what comes behind it is still to come, all else is not disturbed. -/
def freeAt2 (ops : Array Oper) (aos : List AOper) (listed : Array Bool) (i : Nat) : Bool :=
  match aos[i]? with
  | none => false
  | some oi => !oi.owner aos && (List.range ops.size).all fun j => j == i || (if behindN ops i 8 j then !listed.getD j true else listed.getD j true || (match aos[j]? with | some aj => oi.pass aos aj | none => false))
theorem freeAt2_spec {i : Nat} {oi : AOper} {listed : Array Bool} (hi : aos[i]? = some oi) (h : freeAt2 ops aos listed i = true) (j : Nat) (hj : j < ops.size) (hne : j ≠ i) :
    (behindN ops i 8 j = true ∧ listed.getD j true = false) ∨ (behindN ops i 8 j = false ∧ (listed.getD j true = true ∨ ∀ aj, aos[j]? = some aj → oi.pass aos aj = true)) := by
  simp only [freeAt2, hi, Bool.and_eq_true, List.all_eq_true, List.mem_range] at h
  have h1 := h.2 j hj
  simp only [Bool.or_eq_true, beq_iff_eq, hne, false_or] at h1
  split at h1
  · rename_i hb; exact .inl ⟨hb, by simpa using h1⟩
  · rename_i hb
    refine .inr ⟨by simpa using hb, ?_⟩
    rcases (by simpa only [Bool.or_eq_true] using h1 : _ ∨ _) with h2 | h2
    · exact .inl h2
    · refine .inr fun aj haj => ?_
      rw [haj] at h2
      exact h2
theorem freeAt2_own {i : Nat} {oi : AOper} {listed : Array Bool} (hi : aos[i]? = some oi) (h : freeAt2 ops aos listed i = true) : oi.owner aos = false := by
  simp only [freeAt2, hi, Bool.and_eq_true, Bool.not_eq_true'] at h
  exact h.1
theorem freeAt2_less {i j : Nat} {listed : Array Bool} (h : freeAt2 ops aos listed i = true) (hnb : behindN ops i 8 j = false) : freeAt2 ops aos (listed.setIfInBounds j true) i = true := by
  unfold freeAt2 at *
  cases hi : aos[i]? with
  | none => rw [hi] at h; exact h
  | some oi =>
    rw [hi] at h
    simp only [Bool.and_eq_true, List.all_eq_true, List.mem_range] at h ⊢
    refine ⟨h.1, ?_⟩
    intro k hk
    have h1 := h.2 k hk
    simp only [Bool.or_eq_true] at h1 ⊢
    rcases h1 with h1 | h1
    · exact .inl h1
    · refine .inr ?_
      by_cases hjk : j = k
      · subst hjk
        rw [if_neg (by rw [hnb]; simp)]
        rcases Nat.lt_or_ge j listed.size with h' | h'
        · simp [h']
        · simp [h']
      · rw [getD_set_ne true hjk]; exact h1

theorem aAny_take2 {R : AS → Prop} (hc : Compiled P N ops aos) {i : Nat} {oi : AOper} (hi : aos[i]? = some oi) : ∀ (fuel : Nat) (listed : Array Bool) (s : AS), freeAt2 ops aos listed i = true →
    i ∈ Region.ready .any ops listed → aop1 P false oi s (aAny P ops aos R fuel (listed.setIfInBounds i true)) → aAny P ops aos R (fuel + 1) listed s := by
  intro fuel
  induction fuel with
  | zero =>
    intro listed s hfree hr H
    have hno := freeAt2_own hi hfree
    refine ⟨fun h => (by rw [h] at hr; cases hr), fun j hj => ?_⟩
    by_cases hji : j = i
    · subst hji; exact ⟨oi, hi, by rw [hno]; exact H⟩
    · have := ready_mono hj hji
      obtain ⟨s', h1⟩ := aop1_some H
      rw [h1.1] at this
      cases this
  | succ fuel ih =>
    intro listed s hfree hr H
    have hno := freeAt2_own hi hfree
    refine ⟨fun h => (by rw [h] at hr; cases hr), fun j hj => ?_⟩
    by_cases hji : j = i
    · subst hji; exact ⟨oi, hi, by rw [hno]; exact H⟩
    · obtain ⟨hjun, oj, hoj, hall⟩ := mem_ready.1 hj
      obtain ⟨aj, haj, _⟩ := hc j oj hoj
      have hli : ∀ k, k = i → ¬ listed.getD k false = true := fun k hk h1 => by
        subst hk
        have h0 := (mem_ready.1 hr).1
        rcases Nat.lt_or_ge k listed.size with h' | h'
        · simp [h'] at h0 h1; rw [h0] at h1; cases h1
        · simp [Array.getElem?_eq_none h'] at h1
      have hnb : behindN ops i 8 j = false := by
        cases hb : behindN ops i 8 j with
        | false => rfl
        | true =>
          exfalso
          obtain ⟨oj', e, h1, h2, h3, h4⟩ := behindN_edge hb
          rw [hoj] at h1
          cases h1
          have h5 := hall e h2 h3
          rcases h4 with h4 | h4
          · exact hli e.on h4 h5
          · by_cases he : e.on = i
            · exact hli e.on he h5
            · have h6 := behindN_mono h4
              obtain ⟨ok, _, h7, _⟩ := behindN_edge h6
              rcases freeAt2_spec hi hfree e.on (Array.getElem?_eq_some_iff.1 h7).1 he with ⟨_, h8⟩ | ⟨h8, _⟩
              · rcases Nat.lt_or_ge e.on listed.size with h' | h'
                · simp [h'] at h5 h8; rw [h5] at h8; cases h8
                · simp [Array.getElem?_eq_none h'] at h5
              · rw [h6] at h8; cases h8
      have hind : oi.pass aos aj = true := by
        rcases freeAt2_spec hi hfree j (Array.getElem?_eq_some_iff.1 hoj).1 hji with ⟨h8, _⟩ | ⟨_, h8 | h8⟩
        · rw [hnb] at h8; cases h8
        · rw [hjun] at h8; cases h8
        · exact h8 aj haj
      refine ⟨aj, haj, ?_⟩
      have h1 : aop1 P false oi s fun s1 => aop1 P (aj.owner aos) aj s1 (aAny P ops aos R fuel ((listed.setIfInBounds i true).setIfInBounds j true)) := by
        refine aop1_mono (fun s1 h => ?_) H
        obtain ⟨ao, g1, g2⟩ := h.2 j (ready_mono hj hji)
        rw [haj] at g1
        cases g1
        exact g2
      refine aop1_mono (fun s2 h => ?_) (swap_pass hind h1)
      refine ih (listed.setIfInBounds j true) s2 (freeAt2_less hfree hnb) (ready_mono hr (Ne.symm hji)) ?_
      rw [Array.setIfInBounds_comm _ _ hji]
      exact h

/-- A call whose result is appended to may be taken first: what comes behind it is still to come, all else are moves and cuts that do not disturb it. -/
def freeAt3 (ops : Array Oper) (aos : List AOper) (listed : Array Bool) (i : Nat) : Bool :=
  match aos[i]? with
  | none => false
  | some oi => (oi.owner aos && !oi.lent) && (List.range ops.size).all fun j => j == i || (if behindN ops i 8 j then !listed.getD j true else listed.getD j true || (match aos[j]? with | some aj => oi.movs aj && !aj.owner aos | none => false))
theorem freeAt3_spec {i : Nat} {oi : AOper} {listed : Array Bool} (hi : aos[i]? = some oi) (h : freeAt3 ops aos listed i = true) (j : Nat) (hj : j < ops.size) (hne : j ≠ i) :
    (behindN ops i 8 j = true ∧ listed.getD j true = false) ∨ (behindN ops i 8 j = false ∧ (listed.getD j true = true ∨ ∀ aj, aos[j]? = some aj → oi.movs aj = true ∧ aj.owner aos = false)) := by
  simp only [freeAt3, hi, Bool.and_eq_true, List.all_eq_true, List.mem_range] at h
  have h1 := h.2 j hj
  simp only [Bool.or_eq_true, beq_iff_eq, hne, false_or] at h1
  split at h1
  · rename_i hb; exact .inl ⟨hb, by simpa using h1⟩
  · rename_i hb
    refine .inr ⟨by simpa using hb, ?_⟩
    rcases (by simpa only [Bool.or_eq_true] using h1 : _ ∨ _) with h2 | h2
    · exact .inl h2
    · refine .inr fun aj haj => ?_
      rw [haj] at h2
      simpa using h2
theorem freeAt3_own {i : Nat} {oi : AOper} {listed : Array Bool} (hi : aos[i]? = some oi) (h : freeAt3 ops aos listed i = true) : oi.owner aos = true := by
  simp only [freeAt3, hi, Bool.and_eq_true] at h
  exact h.1.1
theorem freeAt3_less {i j : Nat} {listed : Array Bool} (h : freeAt3 ops aos listed i = true) (hnb : behindN ops i 8 j = false) : freeAt3 ops aos (listed.setIfInBounds j true) i = true := by
  unfold freeAt3 at *
  cases hi : aos[i]? with
  | none => rw [hi] at h; exact h
  | some oi =>
    rw [hi] at h
    simp only [Bool.and_eq_true, List.all_eq_true, List.mem_range] at h ⊢
    refine ⟨h.1, ?_⟩
    intro k hk
    have h1 := h.2 k hk
    simp only [Bool.or_eq_true] at h1 ⊢
    rcases h1 with h1 | h1
    · exact .inl h1
    · refine .inr ?_
      by_cases hjk : j = k
      · subst hjk
        rw [if_neg (by rw [hnb]; simp)]
        rcases Nat.lt_or_ge j listed.size with h' | h'
        · simp [h']
        · simp [h']
      · rw [getD_set_ne true hjk]; exact h1

theorem aAny_take3 {R : AS → Prop} (hc : Compiled P N ops aos) {i : Nat} {oi : AOper} (hi : aos[i]? = some oi) : ∀ (fuel : Nat) (listed : Array Bool) (s : AS), freeAt3 ops aos listed i = true →
    i ∈ Region.ready .any ops listed → aown P oi s (aAny P ops aos R fuel (listed.setIfInBounds i true)) → aAny P ops aos R (fuel + 1) listed s := by
  intro fuel
  induction fuel with
  | zero =>
    intro listed s hfree hr H
    have hno := freeAt3_own hi hfree
    refine ⟨fun h => (by rw [h] at hr; cases hr), fun j hj => ?_⟩
    by_cases hji : j = i
    · subst hji; exact ⟨oi, hi, by rw [hno]; exact aown_aop1 H⟩
    · have := ready_mono hj hji
      obtain ⟨s', h1⟩ := aop1_some (aown_aop1 H)
      rw [h1.1] at this
      cases this
  | succ fuel ih =>
    intro listed s hfree hr H
    have hno := freeAt3_own hi hfree
    refine ⟨fun h => (by rw [h] at hr; cases hr), fun j hj => ?_⟩
    by_cases hji : j = i
    · subst hji; exact ⟨oi, hi, by rw [hno]; exact aown_aop1 H⟩
    · obtain ⟨hjun, oj, hoj, hall⟩ := mem_ready.1 hj
      obtain ⟨aj, haj, _⟩ := hc j oj hoj
      have hli : ∀ k, k = i → ¬ listed.getD k false = true := fun k hk h1 => by
        subst hk
        have h0 := (mem_ready.1 hr).1
        rcases Nat.lt_or_ge k listed.size with h' | h'
        · simp [h'] at h0 h1; rw [h0] at h1; cases h1
        · simp [Array.getElem?_eq_none h'] at h1
      have hnb : behindN ops i 8 j = false := by
        cases hb : behindN ops i 8 j with
        | false => rfl
        | true =>
          exfalso
          obtain ⟨oj', e, h1, h2, h3, h4⟩ := behindN_edge hb
          rw [hoj] at h1
          cases h1
          have h5 := hall e h2 h3
          rcases h4 with h4 | h4
          · exact hli e.on h4 h5
          · by_cases he : e.on = i
            · exact hli e.on he h5
            · have h6 := behindN_mono h4
              obtain ⟨ok, _, h7, _⟩ := behindN_edge h6
              rcases freeAt3_spec hi hfree e.on (Array.getElem?_eq_some_iff.1 h7).1 he with ⟨_, h8⟩ | ⟨h8, _⟩
              · rcases Nat.lt_or_ge e.on listed.size with h' | h'
                · simp [h'] at h5 h8; rw [h5] at h8; cases h8
                · simp [Array.getElem?_eq_none h'] at h5
              · rw [h6] at h8; cases h8
      have hind : oi.movs aj = true ∧ aj.owner aos = false := by
        rcases freeAt3_spec hi hfree j (Array.getElem?_eq_some_iff.1 hoj).1 hji with ⟨h8, _⟩ | ⟨_, h8 | h8⟩
        · rw [hnb] at h8; cases h8
        · rw [hjun] at h8; cases h8
        · exact h8 aj haj
      obtain ⟨hind, hjo⟩ := hind
      refine ⟨aj, haj, ?_⟩
      rw [hjo]
      have h1 : aown P oi s fun s1 => aop1 P false aj s1 (aAny P ops aos R fuel ((listed.setIfInBounds i true).setIfInBounds j true)) := by
        refine aown_mono (fun s1 h => ?_) H
        obtain ⟨ao, g1, g2⟩ := h.2 j (ready_mono hj hji)
        rw [haj] at g1
        cases g1
        rw [hjo] at g2
        exact g2
      refine aop1_mono (fun s2 h => ?_) (swap_own hind h1)
      refine ih (listed.setIfInBounds j true) s2 (freeAt3_less hfree hnb) (ready_mono hr (Ne.symm hji)) ?_
      rw [Array.setIfInBounds_comm _ _ hji]
      exact h

/-- A new region, told by its number. -/
def AOper.news (p : AOper) (r : Nat) : Bool :=
  p.g.isNone && p.d == some r && (match p.op with | .alloc _ => true | .bsl _ _ _ parts => parts.isEmpty | _ => false)
/-- The regions that are made new. -/
def preRs (aos : List AOper) : List Nat := aos.filterMap fun p => match p.d with | some r => if p.news r then some r else none | none => none
/-- Does p not disturb o, if what o sees and tells is not of the regions rs? -/
def AOper.preOk (aos : List AOper) (rs : List Nat) (o p : AOper) : Bool :=
  !p.owner aos && ((o.indep p && decide (p.op.cls ≤ 1)) || rs.any fun r => p.news r && o.d != some r && !o.sees.contains r)
/-- An operation whose values are not of the regions rs. -/
def apre (P : Program) (o : AOper) (rs : List Nat) (s : AS) (K : AS → Prop) : Prop :=
  ∃ d, o.d = some d ∧ (∀ r ∈ rs, ∀ t ∈ o.sees, killV r (s.tm t) = s.tm t) ∧ aop1 P false o s fun s' => (∀ r ∈ rs, killV r (s'.tm d) = s'.tm d) ∧ K s'
theorem apre_mono {o : AOper} {rs : List Nat} {K K' : AS → Prop} (h : ∀ s, K s → K' s) (hK : apre P o rs s K) : apre P o rs s K' := by
  obtain ⟨d, h1, h2, h3⟩ := hK
  exact ⟨d, h1, h2, aop1_mono (fun s' h' => ⟨h'.1, h _ h'.2⟩) h3⟩
theorem apre_aop1 {o : AOper} {rs : List Nat} (hK : apre P o rs s K) : aop1 P false o s K := by
  obtain ⟨d, h1, h2, h3⟩ := hK
  exact aop1_mono (fun s' h' => h'.2) h3
theorem new1 {p : AOper} {r : Nat} (h : p.news r = true) (hK : aop1 P false p s K) :
    ∃ c v, K (((s.kill r).mem r c).put (some r) v) ∧ ∀ (s' : AS) (K' : AS → Prop), K' (((s'.kill r).mem r c).put (some r) v) → aop1 P false p s' K' := by
  obtain ⟨d, op, g⟩ := p
  unfold AOper.news at h
  simp only [Bool.and_eq_true, Option.isNone_iff_eq_none, beq_iff_eq] at h
  obtain ⟨⟨hg, hd⟩, hop⟩ := h
  subst hg hd
  unfold aop1 at hK ⊢
  cases op <;> simp at hop
  case alloc zero =>
    simp only [aexec] at hK ⊢
    obtain ⟨r', fl, hr, hK⟩ := hK
    cases hr
    exact ⟨_, _, hK, fun s' K' h' => ⟨_, _, rfl, h'⟩⟩
  case bsl z n zero parts =>
    subst hop
    simp only [aexec, afill] at hK ⊢
    obtain ⟨r', fl, out, hr, ho, hK⟩ := hK
    cases hr
    exact ⟨_, _, hK, fun s' K' h' => ⟨_, _, _, rfl, ho, h'⟩⟩
theorem swap_pre {o p : AOper} {rs : List Nat} (h0 : o.op.cls = 0) (h : o.preOk aos rs p = true) (hK : apre P o rs s fun s1 => aop1 P (p.owner aos) p s1 K) : aop1 P (p.owner aos) p s fun s2 => apre P o rs s2 K := by
  obtain ⟨d, hd, hcl, hK⟩ := hK
  unfold AOper.preOk at h
  simp only [Bool.and_eq_true, Bool.not_eq_true', Bool.or_eq_true, List.any_eq_true, decide_eq_true_eq] at h
  obtain ⟨how, h⟩ := h
  rw [how] at hK ⊢
  obtain ⟨x, hx, hout, hK⟩ := light1 (by omega) hK
  have hout : ∀ r ∈ rs, killV r x = x := fun r hr => by
    have := hout r hr
    rw [hd] at this
    simpa [AS.put] using this
  rcases h with ⟨hi, hp1⟩ | ⟨r, hr, h⟩
  · obtain ⟨i1, i2, i3, i4⟩ := AOper.indep_spec hi
    obtain ⟨y, hy, hK⟩ := light1 hp1 hK
    refine hy s _ (fun t ht => (put_tm_ne fun e => i1 t e ht).symm) (.inr (put_hp _ _ _).symm) ?_
    have hsee : ∀ t ∈ o.sees, (s.put p.d y).tm t = s.tm t := fun t ht => put_tm_ne fun e => i3 t e ht
    refine ⟨d, hd, fun r hr t ht => by rw [hsee t ht]; exact hcl r hr t ht, ?_⟩
    refine hx _ _ hsee (.inl h0) ⟨fun r hr => ?_, ?_⟩
    · rw [hd]
      simpa [AS.put] using hout r hr
    · rw [← put_comm s x y fun k hk => i2 k hk]
      exact hK
  · obtain ⟨⟨hn, hne⟩, hsr⟩ := h
    obtain ⟨c, v, hK, hb⟩ := new1 hn hK
    refine hb s _ ?_
    have hdr : d ≠ r := fun e => by rw [hd, e] at hne; simp at hne
    have hsee : ∀ t ∈ o.sees, ((((s.kill r).mem r c).put (some r) v)).tm t = s.tm t := fun t ht => by
      have htr : t ≠ r := fun e => by subst e; simp [ht] at hsr
      show (if t = r then v else killV r (s.tm t)) = _
      rw [if_neg htr]
      exact hcl r hr t ht
    refine ⟨d, hd, fun r' hr' t ht => by rw [hsee t ht]; exact hcl r' hr' t ht, ?_⟩
    refine hx _ _ hsee (.inl h0) ⟨fun r' hr' => ?_, ?_⟩
    · rw [hd]
      simpa [AS.put] using hout r' hr'
    · rw [hd] at hK ⊢
      rw [own_state hdr, hout r hr] at hK
      exact hK

def freeAt4 (ops : Array Oper) (aos : List AOper) (listed : Array Bool) (i : Nat) : Bool :=
  match aos[i]? with
  | none => false
  | some oi => (!oi.owner aos && oi.op.cls == 0) && (List.range ops.size).all fun j => j == i || (if behindN ops i 8 j then !listed.getD j true else listed.getD j true || (match aos[j]? with | some aj => oi.preOk aos (preRs aos) aj | none => false))
theorem freeAt4_spec {i : Nat} {oi : AOper} {listed : Array Bool} (hi : aos[i]? = some oi) (h : freeAt4 ops aos listed i = true) (j : Nat) (hj : j < ops.size) (hne : j ≠ i) :
    (behindN ops i 8 j = true ∧ listed.getD j true = false) ∨ (behindN ops i 8 j = false ∧ (listed.getD j true = true ∨ ∀ aj, aos[j]? = some aj → oi.preOk aos (preRs aos) aj = true)) := by
  simp only [freeAt4, hi, Bool.and_eq_true, List.all_eq_true, List.mem_range] at h
  have h1 := h.2 j hj
  simp only [Bool.or_eq_true, beq_iff_eq, hne, false_or] at h1
  split at h1
  · rename_i hb; exact .inl ⟨hb, by simpa using h1⟩
  · rename_i hb
    refine .inr ⟨by simpa using hb, ?_⟩
    rcases (by simpa only [Bool.or_eq_true] using h1 : _ ∨ _) with h2 | h2
    · exact .inl h2
    · refine .inr fun aj haj => ?_
      rw [haj] at h2
      exact h2
theorem freeAt4_own {i : Nat} {oi : AOper} {listed : Array Bool} (hi : aos[i]? = some oi) (h : freeAt4 ops aos listed i = true) : oi.owner aos = false ∧ oi.op.cls = 0 := by
  simp only [freeAt4, hi, Bool.and_eq_true, Bool.not_eq_true', beq_iff_eq] at h
  exact h.1
theorem freeAt4_less {i j : Nat} {listed : Array Bool} (h : freeAt4 ops aos listed i = true) (hnb : behindN ops i 8 j = false) : freeAt4 ops aos (listed.setIfInBounds j true) i = true := by
  unfold freeAt4 at *
  cases hi : aos[i]? with
  | none => rw [hi] at h; exact h
  | some oi =>
    rw [hi] at h
    simp only [Bool.and_eq_true, List.all_eq_true, List.mem_range] at h ⊢
    refine ⟨h.1, ?_⟩
    intro k hk
    have h1 := h.2 k hk
    simp only [Bool.or_eq_true] at h1 ⊢
    rcases h1 with h1 | h1
    · exact .inl h1
    · refine .inr ?_
      by_cases hjk : j = k
      · subst hjk
        rw [if_neg (by rw [hnb]; simp)]
        rcases Nat.lt_or_ge j listed.size with h' | h'
        · simp [h']
        · simp [h']
      · rw [getD_set_ne true hjk]; exact h1

theorem aAny_take4 {R : AS → Prop} (hc : Compiled P N ops aos) {i : Nat} {oi : AOper} (hi : aos[i]? = some oi) : ∀ (fuel : Nat) (listed : Array Bool) (s : AS), freeAt4 ops aos listed i = true →
    i ∈ Region.ready .any ops listed → apre P oi (preRs aos) s (aAny P ops aos R fuel (listed.setIfInBounds i true)) → aAny P ops aos R (fuel + 1) listed s := by
  intro fuel
  induction fuel with
  | zero =>
    intro listed s hfree hr H
    have hno := (freeAt4_own hi hfree).1
    refine ⟨fun h => (by rw [h] at hr; cases hr), fun j hj => ?_⟩
    by_cases hji : j = i
    · subst hji; exact ⟨oi, hi, by rw [hno]; exact apre_aop1 H⟩
    · have := ready_mono hj hji
      obtain ⟨s', h1⟩ := aop1_some (apre_aop1 H)
      rw [h1.1] at this
      cases this
  | succ fuel ih =>
    intro listed s hfree hr H
    have hno := (freeAt4_own hi hfree).1
    refine ⟨fun h => (by rw [h] at hr; cases hr), fun j hj => ?_⟩
    by_cases hji : j = i
    · subst hji; exact ⟨oi, hi, by rw [hno]; exact apre_aop1 H⟩
    · obtain ⟨hjun, oj, hoj, hall⟩ := mem_ready.1 hj
      obtain ⟨aj, haj, _⟩ := hc j oj hoj
      have hli : ∀ k, k = i → ¬ listed.getD k false = true := fun k hk h1 => by
        subst hk
        have h0 := (mem_ready.1 hr).1
        rcases Nat.lt_or_ge k listed.size with h' | h'
        · simp [h'] at h0 h1; rw [h0] at h1; cases h1
        · simp [Array.getElem?_eq_none h'] at h1
      have hnb : behindN ops i 8 j = false := by
        cases hb : behindN ops i 8 j with
        | false => rfl
        | true =>
          exfalso
          obtain ⟨oj', e, h1, h2, h3, h4⟩ := behindN_edge hb
          rw [hoj] at h1
          cases h1
          have h5 := hall e h2 h3
          rcases h4 with h4 | h4
          · exact hli e.on h4 h5
          · by_cases he : e.on = i
            · exact hli e.on he h5
            · have h6 := behindN_mono h4
              obtain ⟨ok, _, h7, _⟩ := behindN_edge h6
              rcases freeAt4_spec hi hfree e.on (Array.getElem?_eq_some_iff.1 h7).1 he with ⟨_, h8⟩ | ⟨h8, _⟩
              · rcases Nat.lt_or_ge e.on listed.size with h' | h'
                · simp [h'] at h5 h8; rw [h5] at h8; cases h8
                · simp [Array.getElem?_eq_none h'] at h5
              · rw [h6] at h8; cases h8
      have hind : oi.preOk aos (preRs aos) aj = true := by
        rcases freeAt4_spec hi hfree j (Array.getElem?_eq_some_iff.1 hoj).1 hji with ⟨h8, _⟩ | ⟨_, h8 | h8⟩
        · rw [hnb] at h8; cases h8
        · rw [hjun] at h8; cases h8
        · exact h8 aj haj
      refine ⟨aj, haj, ?_⟩
      have h1 : apre P oi (preRs aos) s fun s1 => aop1 P (aj.owner aos) aj s1 (aAny P ops aos R fuel ((listed.setIfInBounds i true).setIfInBounds j true)) := by
        refine apre_mono (fun s1 h => ?_) H
        obtain ⟨ao, g1, g2⟩ := h.2 j (ready_mono hj hji)
        rw [haj] at g1
        cases g1
        exact g2
      refine aop1_mono (fun s2 h => ?_) (swap_pre (freeAt4_own hi hfree).2 hind h1)
      refine ih (listed.setIfInBounds j true) s2 (freeAt4_less hfree hnb) (ready_mono hr (Ne.symm hji)) ?_
      rw [Array.setIfInBounds_comm _ _ hji]
      exact h

def atree (P : Program) : ATree → AS → (AS → Prop) → Prop
  | .done, s, R => R s
  | .take o t, s, R => aop1 P false o s fun s' => atree P t s' R
  | .two o t p u, s, R => (aop1 P false o s fun s' => atree P t s' R) ∧ (aop1 P false p s fun s' => atree P u s' R)
  | .own o t, s, R => aown P o s fun s' => atree P t s' R
  | .one o t, s, R => aop1 P true o s fun s' => atree P t s' R
  | .alt t u, s, R => atree P t s R ∧ atree P u s R
  | .pre o rs t, s, R => apre P o rs s fun s' => atree P t s' R
  | .top, _, _ => True

def aloneB (aos : List AOper) (r : Nat) : Bool := match aos[r]? with | some o => o.owner aos | none => false
/-- The orders that are to be looked at. -/
def plan (ops : Array Oper) (aos : List AOper) : Nat → Array Bool → Option ATree
  | 0, listed => if Region.ready .any ops listed = [] then some .done else none
  | n + 1, listed =>
    match Region.ready .any ops listed with
    | [] => some .done
    | r :: rs =>
      match (r :: rs).find? (freeAt ops aos listed) with
      | some i => (aos[i]?).bind fun ao => (plan ops aos n (listed.setIfInBounds i true)).map fun t => .take ao t
      | none =>
        match (r :: rs).find? (freeAt3 ops aos listed) with
        | some i => (aos[i]?).bind fun ao => (plan ops aos n (listed.setIfInBounds i true)).map fun t => .own ao t
        | none =>
        if rs.isEmpty && aloneB aos r then (aos[r]?).bind fun o => (plan ops aos n (listed.setIfInBounds r true)).map fun t => .one o t else
        match rs with
        | [j] => (aos[r]?).bind fun o => (aos[j]?).bind fun p => if o.owner aos || p.owner aos then (if ownFV then (plan ops aos n (listed.setIfInBounds r true)).bind fun t => (plan ops aos n (listed.setIfInBounds j true)).map fun u => .alt (if o.owner aos then .one o t else .take o t) (if p.owner aos then .one p u else .take p u) else none) else (plan ops aos n (listed.setIfInBounds r true)).bind fun t => (plan ops aos n (listed.setIfInBounds j true)).map fun u => .two o t p u
        | _ => match (r :: rs).find? (freeAt2 ops aos listed) with
          | some i => (aos[i]?).bind fun ao => (plan ops aos n (listed.setIfInBounds i true)).map fun t => .take ao t
          | none =>
            match (if 10 ≤ ops.size then (r :: rs).find? (freeAt4 ops aos listed) else none) with
            | some i => (aos[i]?).bind fun ao => (plan ops aos n (listed.setIfInBounds i true)).map fun t => .pre ao (preRs aos) t
            | none => if ops.size ≤ altMax then (r :: rs).foldr (fun i acc => acc.bind fun u => (aos[i]?).bind fun o => if o.owner aos then none else (plan ops aos n (listed.setIfInBounds i true)).map fun t => .alt (.take o t) u) (some .top) else none

theorem plan_sound {R : AS → Prop} (hc : Compiled P N ops aos) : ∀ (fuel : Nat) (listed : Array Bool) (t : ATree) (s : AS), plan ops aos fuel listed = some t → atree P t s R → aAny P ops aos R fuel listed s := by
  intro fuel
  induction fuel with
  | zero =>
    intro listed t s hp ht
    unfold plan at hp
    split at hp
    · rename_i h; cases hp; exact ⟨h, ht⟩
    · cases hp
  | succ fuel ih =>
    intro listed t s hp ht
    unfold plan at hp
    split at hp
    · rename_i h
      cases hp
      exact ⟨fun _ => ht, by rw [h]; simp⟩
    · rename_i r rs hready
      split at hp
      · rename_i i hfind
        rw [Option.bind_eq_some_iff] at hp
        obtain ⟨ao, hao, hp⟩ := hp
        rw [Option.map_eq_some_iff] at hp
        obtain ⟨t', ht', rfl⟩ := hp
        have hfree := List.find?_some hfind
        have hmem := List.mem_of_find?_eq_some hfind
        exact aAny_take hc hao fuel listed s hfree (by rw [hready]; exact hmem) (aop1_mono (fun s' h => ih _ _ _ ht' h) ht)
      · split at hp
        · rename_i i hfind
          rw [Option.bind_eq_some_iff] at hp
          obtain ⟨ao, hao, hp⟩ := hp
          rw [Option.map_eq_some_iff] at hp
          obtain ⟨t', ht', rfl⟩ := hp
          have hfree := List.find?_some hfind
          have hmem := List.mem_of_find?_eq_some hfind
          exact aAny_take3 hc hao fuel listed s hfree (by rw [hready]; exact hmem) (aown_mono (fun s' h => ih _ _ _ ht' h) ht)
        split at hp
        · rename_i hal
          simp only [Bool.and_eq_true, List.isEmpty_iff] at hal
          obtain ⟨rfl, hown⟩ := hal
          rw [Option.bind_eq_some_iff] at hp
          obtain ⟨o, ho, hp⟩ := hp
          rw [Option.map_eq_some_iff] at hp
          obtain ⟨t1, ht1, rfl⟩ := hp
          unfold aloneB at hown
          rw [ho] at hown
          replace hown : o.owner aos = true := hown
          refine ⟨fun h => (by rw [hready] at h; cases h), fun k hk => ?_⟩
          rw [hready] at hk
          simp only [List.mem_cons, List.not_mem_nil, or_false] at hk
          subst hk
          exact ⟨o, ho, by rw [hown]; exact aop1_mono (fun s' h => ih _ _ _ ht1 h) ht⟩
        split at hp
        · rename_i j
          rw [Option.bind_eq_some_iff] at hp
          obtain ⟨o, ho, hp⟩ := hp
          rw [Option.bind_eq_some_iff] at hp
          obtain ⟨p, hpo, hp⟩ := hp
          have mk : ∀ (o : AOper) (t : ATree) (i : Nat), aos[i]? = some o → plan ops aos fuel (listed.setIfInBounds i true) = some t → atree P (if o.owner aos then .one o t else .take o t) s R → ∃ ao, aos[i]? = some ao ∧ aop1 P (ao.owner aos) ao s (aAny P ops aos R fuel (listed.setIfInBounds i true)) := by
            intro o t i ho ht hat
            refine ⟨o, ho, ?_⟩
            cases hw : o.owner aos
            · rw [hw] at hat
              exact aop1_mono (fun s' h => ih _ _ _ ht h) hat
            · rw [hw] at hat
              exact aop1_mono (fun s' h => ih _ _ _ ht h) hat
          split at hp
          · split at hp
            · rw [Option.bind_eq_some_iff] at hp
              obtain ⟨t1, ht1, hp⟩ := hp
              rw [Option.map_eq_some_iff] at hp
              obtain ⟨u, hu, rfl⟩ := hp
              refine ⟨fun h => (by rw [hready] at h; cases h), fun k hk => ?_⟩
              rw [hready] at hk
              simp only [List.mem_cons, List.not_mem_nil, or_false] at hk
              rcases hk with rfl | rfl
              · exact mk o t1 _ ho ht1 ht.1
              · exact mk p u _ hpo hu ht.2
            · cases hp
          rename_i hown
          have hown : o.owner aos = false ∧ p.owner aos = false := by simpa using hown
          rw [Option.bind_eq_some_iff] at hp
          obtain ⟨t1, ht1, hp⟩ := hp
          rw [Option.map_eq_some_iff] at hp
          obtain ⟨u, hu, rfl⟩ := hp
          refine ⟨fun h => (by rw [hready] at h; cases h), fun k hk => ?_⟩
          rw [hready] at hk
          simp only [List.mem_cons, List.not_mem_nil, or_false] at hk
          rcases hk with rfl | rfl
          · exact ⟨o, ho, by rw [hown.1]; exact aop1_mono (fun s' h => ih _ _ _ ht1 h) ht.1⟩
          · exact ⟨p, hpo, by rw [hown.2]; exact aop1_mono (fun s' h => ih _ _ _ hu h) ht.2⟩
        · split at hp
          · rename_i i hfind
            rw [Option.bind_eq_some_iff] at hp
            obtain ⟨ao, hao, hp⟩ := hp
            rw [Option.map_eq_some_iff] at hp
            obtain ⟨t', ht', rfl⟩ := hp
            have hfree := List.find?_some hfind
            have hmem := List.mem_of_find?_eq_some hfind
            exact aAny_take2 hc hao fuel listed s hfree (by rw [hready]; exact hmem) (aop1_mono (fun s' h => ih _ _ _ ht' h) ht)
          · split at hp
            · rename_i i hfind
              have hfind : (r :: rs).find? (freeAt4 ops aos listed) = some i := by
                split at hfind
                · exact hfind
                · cases hfind
              rw [Option.bind_eq_some_iff] at hp
              obtain ⟨ao, hao, hp⟩ := hp
              rw [Option.map_eq_some_iff] at hp
              obtain ⟨t', ht', rfl⟩ := hp
              have hfree := List.find?_some hfind
              have hmem := List.mem_of_find?_eq_some hfind
              exact aAny_take4 hc hao fuel listed s hfree (by rw [hready]; exact hmem) (apre_mono (fun s' h => ih _ _ _ ht' h) ht)
            split at hp
            · refine ⟨fun h => (by rw [hready] at h; cases h), ?_⟩
              rw [hready]
              generalize (r :: rs) = l at hp
              clear hready
              induction l generalizing t with
              | nil => intro i hi; simp at hi
              | cons j l ihl =>
                rw [List.foldr_cons, Option.bind_eq_some_iff] at hp
                obtain ⟨u, hu, hp⟩ := hp
                rw [Option.bind_eq_some_iff] at hp
                obtain ⟨o, ho, hp⟩ := hp
                split at hp
                · cases hp
                rename_i hown
                have hown : o.owner aos = false := by simpa using hown
                rw [Option.map_eq_some_iff] at hp
                obtain ⟨t1, ht1, rfl⟩ := hp
                intro i hi
                rcases List.mem_cons.1 hi with rfl | hi
                · exact ⟨o, ho, by rw [hown]; exact aop1_mono (fun s' h => ih _ _ _ ht1 h) ht.1⟩
                · exact ihl u ht.2 hu i hi
            · cases hp

theorem compiled_of_mapM {aos : List AOper} (h : ops.toList.mapM (cop P N ops) = some aos) : Compiled P N ops aos := by
  have key : ∀ (l : List Oper) (out : List AOper), l.mapM (cop P N ops) = some out → ∀ (i : Nat) (o : Oper), l[i]? = some o → ∃ ao, out[i]? = some ao ∧ cop P N ops o = some ao := by
    intro l
    induction l with
    | nil => intro out _ i o hi; simp at hi
    | cons x l ih =>
      intro out h i o hi
      rw [List.mapM_cons] at h
      simp only [Option.bind_eq_bind, Option.bind_eq_some_iff, Option.pure_def, Option.some.injEq] at h
      obtain ⟨ao, h1, out', h2, rfl⟩ := h
      cases i with
      | zero => simp at hi; subst hi; exact ⟨ao, by simp, h1⟩
      | succ i => simpa using ih out' h2 i o (by simpa using hi)
  intro i o hi
  exact key _ _ h i o (by simpa using hi)
end
end Go.Am
