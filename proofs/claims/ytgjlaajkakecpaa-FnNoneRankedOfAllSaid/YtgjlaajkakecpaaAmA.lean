/- The abstract machine, part one: abstract values, what it means that a value of the model is one, and how this is kept when memory changes. It speaks of no program. -/
import Derived.WalkKit
import Derived.Orders
namespace Go.Am

/-- Abstract values: anything; one exact value; a slice of memory that nobody writes (fresh or not, cells an element, its cells, its length); a pointer into such memory; a slice of a region of the call's own; a pointer into one; a struct; a tuple; .. ; a slice of memory that nobody writes, with no room behind. -/
inductive AV where
  | any
  | v (x : Value)
  | ro (fr : Bool) (z : Nat) (cs : List AV) (n : Nat)
  | rp (cs : List AV)
  | sl (r z off n : Nat)
  | pt (r off : Nat)
  | agg (l : List AV)
  | tup (l : List AV)
  | mp (r : Nat)
  | itr (r : Nat)
  | ob (o : Obj)
  | fn (f : FuncId) (l : List AV) (k : Nat)
  | rmp (fr : Bool) (es : Array MapEntry) (clock : Nat)
  | fu (z : Nat) (cs : List AV) (n : Nat)
  | mit (r : Nat) (m : Option Nat) (bm : Nat) (es : Array MapEntry) (ck : Nat)
  deriving Inhabited

structure Ctx where
  heap : Array Obj
  ro : Nat → Prop
  base : Nat
  phi : Nat → Option Nat
  live : Nat → Bool
  loc : Bool

def Ctx.out (C : Ctx) : Ctx := { C with loc := false }

mutual
def SimV : AV → Ctx → Value → Prop
  | .any, _, _ => True
  | .v x, _, y => y = x
  | .ro fr z cs n, C, y =>
      (n = 0 ∧ cs = [] ∧ ∃ a c, y = .slice a 0 c ∧ (fr = true → a = none ∧ c = 0)) ∨
      (∃ b o cap cur e fz, y = .slice (some ⟨b, o, none⟩) n cap ∧ C.heap[b]? = some (.cells cur e fz) ∧ C.ro b ∧ cs.length = n * z ∧ n ≤ cap ∧
        (fr = true → C.base ≤ b ∧ fz = (0, 0) ∧ o = 0 ∧ cap ≤ maxLen ∧ cap * z ≤ cur.size) ∧ SimL cs C.out (cur.toList.drop o))
  | .rp cs, C, y => ∃ b o cur e fz, y = .pointer (some ⟨b, o, none⟩) ∧ C.heap[b]? = some (.cells cur e fz) ∧ C.ro b ∧ SimL cs C.out (cur.toList.drop o)
  | .sl r z off n, C, y => C.loc = true ∧ C.live r = true ∧
      ((C.phi r = none ∧ off = 0 ∧ n = 0 ∧ y = .slice none 0 0) ∨
      (∃ b o cap cur e, C.phi r = some b ∧ y = .slice (some ⟨b, o, none⟩) n cap ∧ C.heap[b]? = some (.cells cur e (0, 0)) ∧ (o = off ∨ n = 0 ∧ 0 < off) ∧
        n ≤ cap ∧ cap ≤ maxLen ∧ o + cap * z ≤ cur.size))
  | .pt r off, C, y => C.loc = true ∧ C.live r = true ∧ ∃ b, C.phi r = some b ∧ y = .pointer (some ⟨b, off, none⟩) ∧ ∃ cur e, C.heap[b]? = some (.cells cur e (0, 0))
  | .agg l, C, y => ∃ a, y = .agg a ∧ a.size = l.length ∧ SimL l C a.toList
  | .tup l, C, y => ∃ a, y = .tuple a ∧ a.size = l.length ∧ SimL l C a.toList
  | .mp r, C, y => C.loc = true ∧ C.live r = true ∧ ∃ b, C.phi r = some b ∧ y = .map (some b)
  | .itr r, C, y => C.loc = true ∧ C.live r = true ∧ ∃ b, C.phi r = some b ∧ y = .pointer (some ⟨b, 0, none⟩)
  | .ob _, _, _ => False
  | .fn f l k, C, y => ∃ a b, y = .func (.func f) a b ∧ a.size = k ∧ a.size + b.size = l.length ∧ SimL l C (a.toList ++ b.toList)
  | .rmp fr es clock, C, y => ∃ b, y = Value.map (some b) ∧ C.heap[b]? = some (Obj.map es clock) ∧ C.ro b ∧ (fr = true → C.base ≤ b)
  | .fu z cs n, C, y => (n = 0 ∧ cs = [] ∧ ∃ a, y = .slice a 0 0) ∨
      ∃ b o cur e fz, y = .slice (some ⟨b, o, none⟩) n n ∧ C.heap[b]? = some (.cells cur e fz) ∧ C.ro b ∧ cs.length = n * z ∧ SimL cs C.out (cur.toList.drop o)
  | .mit r m bm es ck, C, y => C.loc = true ∧ C.live r = true ∧ (∃ b, C.phi r = some b ∧ y = .pointer (some ⟨b, 0, none⟩)) ∧
      ((∃ q, m = some q ∧ C.live q = true ∧ C.phi q = some bm) ∨ (m = none ∧ C.ro bm ∧ C.heap[bm]? = some (Obj.map es ck)))
def SimL : List AV → Ctx → List Value → Prop
  | [], _, _ => True
  | _ :: _, _, [] => False
  | a :: l, C, x :: xs => SimV a C x ∧ SimL l C xs
end

/-- From C to D nothing is lost of what is read of the regions that 'keep' tells. -/
structure Ctx.LeOn (keep : Nat → Bool) (C D : Ctx) : Prop where
  ro : ∀ b, C.ro b → D.ro b ∧ D.heap[b]? = C.heap[b]?
  base : D.base ≤ C.base
  loc : C.loc = true → D.loc = true
  live : C.loc = true → ∀ r, keep r = true → C.live r = true → D.live r = true ∧ D.phi r = C.phi r
  cell : C.loc = true → ∀ r b cur e, keep r = true → C.live r = true → C.phi r = some b → C.heap[b]? = some (.cells cur e (0, 0)) → ∃ cur', D.heap[b]? = some (.cells cur' e (0, 0)) ∧ cur.size ≤ cur'.size

mutual
/-- All regions that a value leads to are kept. -/
def refsV (keep : Nat → Bool) : AV → Bool
  | .sl r _ _ _ => keep r
  | .pt r _ => keep r
  | .agg l => refsL keep l
  | .tup l => refsL keep l
  | .any => true
  | .v _ => true
  | .ro _ _ _ _ => true
  | .rp _ => true
  | .mp r => keep r
  | .itr r => keep r
  | .ob _ => true
  | .fn _ l _ => refsL keep l
  | .rmp _ _ _ => true
  | .fu _ _ _ => true
  | .mit r m _ _ _ => keep r && m.all keep
def refsL (keep : Nat → Bool) : List AV → Bool
  | [] => true
  | a :: l => refsV keep a && refsL keep l
end

theorem Ctx.LeOn.out {keep : Nat → Bool} {C D : Ctx} (h : C.LeOn keep D) (keep' : Nat → Bool) : C.out.LeOn keep' D.out :=
  ⟨h.ro, h.base, fun e => by simp [Ctx.out] at e, fun e => by simp [Ctx.out] at e, fun e => by simp [Ctx.out] at e⟩

mutual
theorem refsV_all : ∀ x : AV, refsV (fun _ => true) x = true
  | .any => by simp [refsV]
  | .v _ => by simp [refsV]
  | .ro _ _ _ _ => by simp [refsV]
  | .rp _ => by simp [refsV]
  | .sl _ _ _ _ => by simp [refsV]
  | .pt _ _ => by simp [refsV]
  | .agg l => by simp [refsV, refsL_all l]
  | .tup l => by simp [refsV, refsL_all l]
  | .mp _ => by simp [refsV]
  | .itr _ => by simp [refsV]
  | .ob _ => by simp [refsV]
  | .fn _ l _ => by simp [refsV, refsL_all l]
  | .rmp _ _ _ => by simp [refsV]
  | .fu _ _ _ => by simp [refsV]
  | .mit _ m _ _ _ => by cases m <;> simp [refsV]
theorem refsL_all : ∀ l : List AV, refsL (fun _ => true) l = true
  | [] => by simp [refsL]
  | a :: l => by simp [refsL, refsV_all a, refsL_all l]
end

mutual
theorem SimV.on (keep : Nat → Bool) : ∀ (x : AV) (C D : Ctx) (y : Value), C.LeOn keep D → refsV keep x = true → SimV x C y → SimV x D y
  | .any, _, _, _, _, _, _ => by simp [SimV]
  | .v x, _, _, _, _, _, h => by simpa [SimV] using h
  | .ro fr z cs n, C, D, y, hl, _, h => by
    simp only [SimV] at h ⊢
    rcases h with h | ⟨b, o, cap, cur, e, fz, hy, hb, hr, hlen, hnc, hf, hs⟩
    · exact .inl h
    · refine .inr ⟨b, o, cap, cur, e, fz, hy, (hl.ro b hr).2.trans hb, (hl.ro b hr).1, hlen, hnc, fun e => ?_, SimL.on (fun _ => true) cs _ _ _ (hl.out _) (refsL_all cs) hs⟩
      obtain ⟨h1, h2⟩ := hf e
      exact ⟨Nat.le_trans hl.base h1, h2⟩
  | .rp cs, C, D, y, hl, _, h => by
    simp only [SimV] at h ⊢
    obtain ⟨b, o, cur, e, fz, hy, hb, hr, hs⟩ := h
    exact ⟨b, o, cur, e, fz, hy, (hl.ro b hr).2.trans hb, (hl.ro b hr).1, SimL.on (fun _ => true) cs _ _ _ (hl.out _) (refsL_all cs) hs⟩
  | .sl r z off n, C, D, y, hl, hk, h => by
    simp only [SimV, refsV] at h hk ⊢
    obtain ⟨hc, hr', h⟩ := h
    obtain ⟨hr, hp⟩ := hl.live hc r hk hr'
    refine ⟨hl.loc hc, hr, ?_⟩
    rcases h with ⟨h1, h2⟩ | ⟨b, o, cap, cur, e, h1, h2, h3, h4, h5, h6, h7⟩
    · exact .inl ⟨hp.trans h1, h2⟩
    · obtain ⟨cur', h8, h9⟩ := hl.cell hc r b cur e hk hr' h1 h3
      exact .inr ⟨b, o, cap, cur', e, hp.trans h1, h2, h8, h4, h5, h6, Nat.le_trans h7 h9⟩
  | .pt r off, C, D, y, hl, hk, h => by
    simp only [SimV, refsV] at h hk ⊢
    obtain ⟨hc, hr', b, h1, h2, cur, e, h3⟩ := h
    obtain ⟨hr, hp⟩ := hl.live hc r hk hr'
    obtain ⟨cur', h4, _⟩ := hl.cell hc r b cur e hk hr' h1 h3
    exact ⟨hl.loc hc, hr, b, hp.trans h1, h2, cur', e, h4⟩
  | .agg l, C, D, y, hl, hk, h => by
    simp only [SimV, refsV] at h hk ⊢
    obtain ⟨a, h1, h2, h3⟩ := h
    exact ⟨a, h1, h2, SimL.on keep l _ _ _ hl hk h3⟩
  | .tup l, C, D, y, hl, hk, h => by
    simp only [SimV, refsV] at h hk ⊢
    obtain ⟨a, h1, h2, h3⟩ := h
    exact ⟨a, h1, h2, SimL.on keep l _ _ _ hl hk h3⟩
  | .mp r, C, D, y, hl, hk, h => by
    simp only [SimV, refsV] at h hk ⊢
    obtain ⟨hc, hr', b, h1, h2⟩ := h
    obtain ⟨hr, hp⟩ := hl.live hc r hk hr'
    exact ⟨hl.loc hc, hr, b, hp.trans h1, h2⟩
  | .itr r, C, D, y, hl, hk, h => by
    simp only [SimV, refsV] at h hk ⊢
    obtain ⟨hc, hr', b, h1, h2⟩ := h
    obtain ⟨hr, hp⟩ := hl.live hc r hk hr'
    exact ⟨hl.loc hc, hr, b, hp.trans h1, h2⟩
  | .ob o, _, _, _, _, _, h => by simp [SimV] at h
  | .fn f l k, C, D, y, hl, hk, h => by
    simp only [SimV, refsV] at h hk ⊢
    obtain ⟨a, b, h1, h2, h3, h4⟩ := h
    exact ⟨a, b, h1, h2, h3, SimL.on keep l _ _ _ hl hk h4⟩
  | .fu z cs n, C, D, y, hl, _, h => by
    simp only [SimV] at h ⊢
    rcases h with h | ⟨b, o, cur, e, fz, hy, hb, hr, hlen, hs⟩
    · exact .inl h
    · exact .inr ⟨b, o, cur, e, fz, hy, (hl.ro b hr).2.trans hb, (hl.ro b hr).1, hlen, SimL.on (fun _ => true) cs _ _ _ (hl.out _) (refsL_all cs) hs⟩
  | .rmp fr es clock, C, D, y, hl, _, h => by
    simp only [SimV] at h ⊢
    obtain ⟨b, h1, h2, h3, h4⟩ := h
    exact ⟨b, h1, (hl.ro b h3).2.trans h2, (hl.ro b h3).1, fun e => Nat.le_trans hl.base (h4 e)⟩
  | .mit r m bm es ck, C, D, y, hl, hk, h => by
    simp only [SimV, refsV, Bool.and_eq_true] at h hk ⊢
    obtain ⟨hc, hr', ⟨b, h1, h2⟩, h3⟩ := h
    obtain ⟨hr, hp⟩ := hl.live hc r hk.1 hr'
    refine ⟨hl.loc hc, hr, ⟨b, hp.trans h1, h2⟩, ?_⟩
    rcases h3 with ⟨q, rfl, h4, h5⟩ | ⟨rfl, h4, h5⟩
    · obtain ⟨hq, hpq⟩ := hl.live hc q (by simpa using hk.2) h4
      exact .inl ⟨q, rfl, hq, hpq.trans h5⟩
    · exact .inr ⟨rfl, (hl.ro bm h4).1, (hl.ro bm h4).2.trans h5⟩
theorem SimL.on (keep : Nat → Bool) : ∀ (l : List AV) (C D : Ctx) (ys : List Value), C.LeOn keep D → refsL keep l = true → SimL l C ys → SimL l D ys
  | [], _, _, _, _, _, _ => by simp [SimL]
  | _ :: _, _, _, [], _, _, h => by simp [SimL] at h
  | a :: l, C, D, y :: ys, hl, hk, h => by
    simp only [SimL, refsL, Bool.and_eq_true] at h hk ⊢
    exact ⟨SimV.on keep a _ _ _ hl hk.1 h.1, SimL.on keep l _ _ _ hl hk.2 h.2⟩
end

/-- Nothing at all is lost. -/
abbrev Ctx.Le (C D : Ctx) : Prop := C.LeOn (fun _ => true) D
theorem SimV.mono (x : AV) (C D : Ctx) (y : Value) (hl : C.Le D) (h : SimV x C y) : SimV x D y := SimV.on _ x C D y hl (refsV_all x) h
theorem SimL.mono (l : List AV) (C D : Ctx) (ys : List Value) (hl : C.Le D) (h : SimL l C ys) : SimL l D ys := SimL.on _ l C D ys hl (refsL_all l) h

mutual
/-- What a context tells of leads to regions that live there. -/
theorem SimV.refs : ∀ (x : AV) (C : Ctx) (y : Value), SimV x C y → refsV C.live x = true
  | .any, _, _, _ => by simp [refsV]
  | .v _, _, _, _ => by simp [refsV]
  | .ro _ _ _ _, _, _, _ => by simp [refsV]
  | .rp _, _, _, _ => by simp [refsV]
  | .sl _ _ _ _, _, _, h => by simp only [SimV, refsV] at h ⊢; exact h.2.1
  | .pt _ _, _, _, h => by simp only [SimV, refsV] at h ⊢; exact h.2.1
  | .agg l, C, y, h => by
    simp only [SimV, refsV] at h ⊢
    obtain ⟨a, _, _, h⟩ := h
    exact SimL.refs l C _ h
  | .tup l, C, y, h => by
    simp only [SimV, refsV] at h ⊢
    obtain ⟨a, _, _, h⟩ := h
    exact SimL.refs l C _ h
  | .mp _, _, _, h => by simp only [SimV, refsV] at h ⊢; exact h.2.1
  | .itr _, _, _, h => by simp only [SimV, refsV] at h ⊢; exact h.2.1
  | .ob _, _, _, _ => by simp [refsV]
  | .fn f l k, C, y, h => by
    simp only [SimV, refsV] at h ⊢
    obtain ⟨a, b, _, _, _, h⟩ := h
    exact SimL.refs l C _ h
  | .rmp _ _ _, _, _, _ => by simp [refsV]
  | .fu _ _ _, _, _, _ => by simp [refsV]
  | .mit r m _ _ _, _, _, h => by
    simp only [SimV, refsV] at h ⊢
    obtain ⟨_, h1, _, ⟨q, rfl, h2, _⟩ | ⟨rfl, _⟩⟩ := h
    · simp [h1, h2]
    · simp [h1]
theorem SimL.refs : ∀ (l : List AV) (C : Ctx) (ys : List Value), SimL l C ys → refsL C.live l = true
  | [], _, _, _ => by simp [refsL]
  | _ :: _, _, [], h => by simp [SimL] at h
  | a :: l, C, y :: ys, h => by
    simp only [SimL, refsL, Bool.and_eq_true] at h ⊢
    exact ⟨SimV.refs a C y h.1, SimL.refs l C ys h.2⟩
end

theorem SimL.length_le : ∀ {l : List AV} {C : Ctx} {ys : List Value}, SimL l C ys → l.length ≤ ys.length
  | [], _, _, _ => by simp
  | _ :: _, _, [], h => by simp [SimL] at h
  | a :: l, C, y :: ys, h => by
    simp only [SimL] at h
    have := SimL.length_le h.2
    simpa using this

theorem SimL.get : ∀ {l : List AV} {C : Ctx} {ys : List Value} {i : Nat} {a : AV}, SimL l C ys → l[i]? = some a → ∃ y, ys[i]? = some y ∧ SimV a C y
  | [], _, _, _, _, _, h => by simp at h
  | _ :: _, _, [], _, _, h, _ => by simp [SimL] at h
  | x :: l, C, y :: ys, 0, a, h, hi => by
    simp only [SimL] at h
    simp at hi
    exact ⟨y, rfl, hi ▸ h.1⟩
  | x :: l, C, y :: ys, i + 1, a, h, hi => by
    simp only [SimL] at h
    simpa using SimL.get h.2 (by simpa using hi)

theorem SimL.of_get : ∀ {l : List AV} {C : Ctx} {ys : List Value}, (∀ (i : Nat) (a : AV), l[i]? = some a → ∃ y, ys[i]? = some y ∧ SimV a C y) → SimL l C ys
  | [], _, _, _ => by simp [SimL]
  | a :: l, C, [], h => by
    obtain ⟨y, h1, _⟩ := h 0 a rfl
    simp at h1
  | a :: l, C, y :: ys, h => by
    simp only [SimL]
    refine ⟨?_, SimL.of_get fun i b hb => by simpa using h (i + 1) b (by simpa using hb)⟩
    obtain ⟨y', h1, h2⟩ := h 0 a rfl
    simp at h1
    exact h1 ▸ h2

theorem SimL.drop {l : List AV} {C : Ctx} {ys : List Value} (k : Nat) (h : SimL l C ys) : SimL (l.drop k) C (ys.drop k) :=
  SimL.of_get fun i a hi => by
    rw [List.getElem?_drop] at hi ⊢
    exact h.get hi

theorem SimL.take {l : List AV} {C : Ctx} {ys : List Value} (k : Nat) (h : SimL l C ys) : SimL (l.take k) C ys :=
  SimL.of_get fun i a hi => by
    rw [List.getElem?_take] at hi
    split at hi
    · exact h.get hi
    · cases hi

theorem SimL.append {l m : List AV} {C : Ctx} {xs ys : List Value} (h : SimL l C xs) (hx : xs.length = l.length) (k : SimL m C ys) : SimL (l ++ m) C (xs ++ ys) :=
  SimL.of_get fun i a hi => by
    rw [List.getElem?_append] at hi ⊢
    rw [hx]
    split at hi
    · rename_i hlt; rw [if_pos hlt]; exact h.get hi
    · rename_i hlt; rw [if_neg hlt]; exact k.get hi

theorem SimL.longer {l : List AV} {C : Ctx} {xs ys : List Value} (h : SimL l C xs) : SimL l C (xs ++ ys) :=
  SimL.of_get fun i a hi => by
    obtain ⟨y, h1, h2⟩ := h.get hi
    refine ⟨y, ?_, h2⟩
    rw [List.getElem?_append_left (List.getElem?_eq_some_iff.1 h1).1]
    exact h1

theorem SimL.shorter {l : List AV} {C : Ctx} {xs : List Value} (h : SimL l C xs) (k : Nat) (hk : l.length ≤ k) : SimL l C (xs.take k) :=
  SimL.of_get fun i a hi => by
    obtain ⟨y, h1, h2⟩ := h.get hi
    have := (List.getElem?_eq_some_iff.1 hi).1
    exact ⟨y, by rw [List.getElem?_take, if_pos (by omega)]; exact h1, h2⟩

theorem SimL.set {l : List AV} {C : Ctx} {xs : List Value} {i : Nat} {a : AV} {y : Value} (h : SimL l C xs) (ha : SimV a C y) (hi : i < l.length) : SimL (l.set i a) C (xs.set i y) :=
  SimL.of_get fun j b hb => by
    rw [List.getElem?_set] at hb ⊢
    have hle := h.length_le
    by_cases hij : i = j
    · subst hij
      simp [hi] at hb
      exact ⟨y, by simp; omega, hb ▸ ha⟩
    · simp [hij] at hb ⊢
      exact h.get hb

/- Killing a region: what points into it is forgotten. -/
mutual
def killV (r : Nat) : AV → AV
  | .sl q z off n => if q = r then .any else .sl q z off n
  | .pt q off => if q = r then .any else .pt q off
  | .agg l => .agg (killL r l)
  | .tup l => .tup (killL r l)
  | .any => .any
  | .v x => .v x
  | .ro fr z cs n => .ro fr z cs n
  | .rp cs => .rp cs
  | .mp q => if q = r then .any else .mp q
  | .itr q => if q = r then .any else .itr q
  | .ob o => .ob o
  | .fn f l k => .fn f (killL r l) k
  | .rmp fr es clock => .rmp fr es clock
  | .fu z cs n => .fu z cs n
  | .mit q m bm es ck => if q = r ∨ m = some r then .any else .mit q m bm es ck
def killL (r : Nat) : List AV → List AV
  | [] => []
  | a :: l => killV r a :: killL r l
end

theorem killL_eq_map (r : Nat) : ∀ l : List AV, killL r l = l.map (killV r)
  | [] => by simp [killL]
  | a :: l => by simp [killL, killL_eq_map r l]

mutual
/-- What is left behind a kill is still told, and leads to the killed region no more. -/
theorem SimV.weak_kill (r : Nat) : ∀ (x : AV) (C : Ctx) (y : Value), SimV x C y → SimV (killV r x) C y
  | .any, _, _, _ => by simp [SimV, killV]
  | .v x, _, _, h => by simpa [SimV, killV] using h
  | .ro fr z cs n, C, y, h => by simpa only [killV] using h
  | .rp cs, C, y, h => by simpa only [killV] using h
  | .sl q z off n, C, y, h => by
    simp only [killV]
    split
    · simp [SimV]
    · exact h
  | .pt q off, C, y, h => by
    simp only [killV]
    split
    · simp [SimV]
    · exact h
  | .agg l, C, y, h => by
    simp only [killV, SimV] at h ⊢
    obtain ⟨a, h1, h2, h3⟩ := h
    exact ⟨a, h1, by rw [h2, killL_eq_map, List.length_map], SimL.weak_kill r l C _ h3⟩
  | .tup l, C, y, h => by
    simp only [killV, SimV] at h ⊢
    obtain ⟨a, h1, h2, h3⟩ := h
    exact ⟨a, h1, by rw [h2, killL_eq_map, List.length_map], SimL.weak_kill r l C _ h3⟩
  | .mp q, C, y, h => by
    simp only [killV]
    split
    · simp [SimV]
    · exact h
  | .itr q, C, y, h => by
    simp only [killV]
    split
    · simp [SimV]
    · exact h
  | .ob o, C, y, h => by simp [SimV] at h
  | .fn f l k, C, y, h => by
    simp only [killV, SimV] at h ⊢
    obtain ⟨a, b, h1, h2, h3, h4⟩ := h
    exact ⟨a, b, h1, h2, by rw [h3, killL_eq_map, List.length_map], SimL.weak_kill r l C _ h4⟩
  | .rmp fr es clock, C, y, h => by simpa only [killV] using h
  | .fu z cs n, C, y, h => by simpa only [killV] using h
  | .mit q m bm es ck, C, y, h => by
    simp only [killV]
    split
    · simp [SimV]
    · exact h
theorem SimL.weak_kill (r : Nat) : ∀ (l : List AV) (C : Ctx) (ys : List Value), SimL l C ys → SimL (killL r l) C ys
  | [], _, _, _ => by simp [SimL, killL]
  | _ :: _, _, [], h => by simp [SimL] at h
  | a :: l, C, y :: ys, h => by
    simp only [SimL, killL] at h ⊢
    exact ⟨SimV.weak_kill r a C y h.1, SimL.weak_kill r l C ys h.2⟩
end

mutual
theorem refsV_kill (r : Nat) : ∀ x : AV, refsV (fun q => !(q == r)) (killV r x) = true
  | .any => by simp [refsV, killV]
  | .v _ => by simp [refsV, killV]
  | .ro _ _ _ _ => by simp [refsV, killV]
  | .rp _ => by simp [refsV, killV]
  | .sl q _ _ _ => by by_cases h : q = r <;> simp [refsV, killV, h]
  | .pt q _ => by by_cases h : q = r <;> simp [refsV, killV, h]
  | .agg l => by simp [refsV, killV, refsL_kill r l]
  | .tup l => by simp [refsV, killV, refsL_kill r l]
  | .mp q => by by_cases h : q = r <;> simp [refsV, killV, h]
  | .itr q => by by_cases h : q = r <;> simp [refsV, killV, h]
  | .ob _ => by simp [refsV, killV]
  | .fn _ l _ => by simp [refsV, killV, refsL_kill r l]
  | .rmp _ _ _ => by simp [refsV, killV]
  | .fu _ _ _ => by simp [refsV, killV]
  | .mit q m _ _ _ => by
    by_cases h : q = r ∨ m = some r
    · simp [refsV, killV, h]
    · rw [killV, if_neg h]
      have h1 : q ≠ r := fun e => h (.inl e)
      have h2 : m ≠ some r := fun e => h (.inr e)
      cases m with
      | none => simp [refsV, h1]
      | some k => have : k ≠ r := fun e => h2 (by rw [e]); simp [refsV, h1, this]
theorem refsL_kill (r : Nat) : ∀ l : List AV, refsL (fun q => !(q == r)) (killL r l) = true
  | [] => by simp [refsL, killL]
  | a :: l => by simp [refsL, killL, refsV_kill r a, refsL_kill r l]
end

theorem SimV.kill (r : Nat) (x : AV) (C D : Ctx) (y : Value) (hl : C.LeOn (fun q => !(q == r)) D) (h : SimV x C y) : SimV (killV r x) D y :=
  SimV.on _ _ C D y hl (refsV_kill r x) (SimV.weak_kill r x C y h)
theorem SimL.kill (r : Nat) (l : List AV) (C D : Ctx) (ys : List Value) (hl : C.LeOn (fun q => !(q == r)) D) (h : SimL l C ys) : SimL (killL r l) D ys :=
  SimL.on _ _ C D ys hl (refsL_kill r l) (SimL.weak_kill r l C ys h)
/- Dropping regions, all that p tells. -/
mutual
def dropV (p : Nat → Bool) : AV → AV
  | .sl q z off n => if p q = true then .any else .sl q z off n
  | .pt q off => if p q = true then .any else .pt q off
  | .agg l => .agg (dropL p l)
  | .tup l => .tup (dropL p l)
  | .any => .any
  | .v x => .v x
  | .ro fr z cs n => .ro fr z cs n
  | .rp cs => .rp cs
  | .mp q => if p q = true then .any else .mp q
  | .itr q => if p q = true then .any else .itr q
  | .ob o => .ob o
  | .fn f l k => .fn f (dropL p l) k
  | .rmp fr es clock => .rmp fr es clock
  | .fu z cs n => .fu z cs n
  | .mit q m bm es ck => if (p q || m.any p) = true then .any else .mit q m bm es ck
def dropL (p : Nat → Bool) : List AV → List AV
  | [] => []
  | a :: l => dropV p a :: dropL p l
end

theorem dropL_eq_map (p : Nat → Bool) : ∀ l : List AV, dropL p l = l.map (dropV p)
  | [] => by simp [dropL]
  | a :: l => by simp [dropL, dropL_eq_map p l]

mutual
/-- What is left is still told. -/
theorem SimV.weak_drop (p : Nat → Bool) : ∀ (x : AV) (C : Ctx) (y : Value), SimV x C y → SimV (dropV p x) C y
  | .any, _, _, _ => by simp [SimV, dropV]
  | .v x, _, _, h => by simpa [SimV, dropV] using h
  | .ro fr z cs n, C, y, h => by simpa only [dropV] using h
  | .rp cs, C, y, h => by simpa only [dropV] using h
  | .sl q z off n, C, y, h => by
    simp only [dropV]
    split
    · simp [SimV]
    · exact h
  | .pt q off, C, y, h => by
    simp only [dropV]
    split
    · simp [SimV]
    · exact h
  | .agg l, C, y, h => by
    simp only [dropV, SimV] at h ⊢
    obtain ⟨a, h1, h2, h3⟩ := h
    exact ⟨a, h1, by rw [h2, dropL_eq_map, List.length_map], SimL.weak_drop p l C _ h3⟩
  | .tup l, C, y, h => by
    simp only [dropV, SimV] at h ⊢
    obtain ⟨a, h1, h2, h3⟩ := h
    exact ⟨a, h1, by rw [h2, dropL_eq_map, List.length_map], SimL.weak_drop p l C _ h3⟩
  | .mp q, C, y, h => by
    simp only [dropV]
    split
    · simp [SimV]
    · exact h
  | .itr q, C, y, h => by
    simp only [dropV]
    split
    · simp [SimV]
    · exact h
  | .ob o, C, y, h => by simp [SimV] at h
  | .fn f l k, C, y, h => by
    simp only [dropV, SimV] at h ⊢
    obtain ⟨a, b, h1, h2, h3, h4⟩ := h
    exact ⟨a, b, h1, h2, by rw [h3, dropL_eq_map, List.length_map], SimL.weak_drop p l C _ h4⟩
  | .rmp fr es clock, C, y, h => by simpa only [dropV] using h
  | .fu z cs n, C, y, h => by simpa only [dropV] using h
  | .mit q m bm es ck, C, y, h => by
    simp only [dropV]
    split
    · simp [SimV]
    · exact h
theorem SimL.weak_drop (p : Nat → Bool) : ∀ (l : List AV) (C : Ctx) (ys : List Value), SimL l C ys → SimL (dropL p l) C ys
  | [], _, _, _ => by simp [SimL, dropL]
  | _ :: _, _, [], h => by simp [SimL] at h
  | a :: l, C, y :: ys, h => by
    simp only [SimL, dropL] at h ⊢
    exact ⟨SimV.weak_drop p a C y h.1, SimL.weak_drop p l C ys h.2⟩
end

mutual
theorem refsV_drop (p : Nat → Bool) : ∀ x : AV, refsV (fun q => !(p q)) (dropV p x) = true
  | .any => by simp [refsV, dropV]
  | .v _ => by simp [refsV, dropV]
  | .ro _ _ _ _ => by simp [refsV, dropV]
  | .rp _ => by simp [refsV, dropV]
  | .sl q _ _ _ => by by_cases h : p q = true <;> simp [refsV, dropV, h]
  | .pt q _ => by by_cases h : p q = true <;> simp [refsV, dropV, h]
  | .agg l => by simp [refsV, dropV, refsL_drop p l]
  | .tup l => by simp [refsV, dropV, refsL_drop p l]
  | .mp q => by by_cases h : p q = true <;> simp [refsV, dropV, h]
  | .itr q => by by_cases h : p q = true <;> simp [refsV, dropV, h]
  | .ob _ => by simp [refsV, dropV]
  | .fn _ l _ => by simp [refsV, dropV, refsL_drop p l]
  | .rmp _ _ _ => by simp [refsV, dropV]
  | .fu _ _ _ => by simp [refsV, dropV]
  | .mit q m _ _ _ => by
    by_cases h : (p q || m.any p) = true
    · rw [dropV, if_pos h]; simp [refsV]
    · rw [dropV, if_neg h]
      cases m <;> simp_all [refsV]
theorem refsL_drop (p : Nat → Bool) : ∀ l : List AV, refsL (fun q => !(p q)) (dropL p l) = true
  | [] => by simp [refsL, dropL]
  | a :: l => by simp [refsL, dropL, refsV_drop p a, refsL_drop p l]
end

theorem SimV.dropP (p : Nat → Bool) (x : AV) (C D : Ctx) (y : Value) (hl : C.LeOn (fun q => !(p q)) D) (h : SimV x C y) : SimV (dropV p x) D y :=
  SimV.on _ _ C D y hl (refsV_drop p x) (SimV.weak_drop p x C y h)
theorem SimL.dropP (p : Nat → Bool) (l : List AV) (C D : Ctx) (ys : List Value) (hl : C.LeOn (fun q => !(p q)) D) (h : SimL l C ys) : SimL (dropL p l) D ys :=
  SimL.on _ _ C D ys hl (refsL_drop p l) (SimL.weak_drop p l C ys h)
end Go.Am
