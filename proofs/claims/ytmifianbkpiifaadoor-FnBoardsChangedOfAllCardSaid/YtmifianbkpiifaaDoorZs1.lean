/- The abstract machine, contracts: part 1 of what this claim needs. -/
import Derived.WalkKit
import Derived.Orders
import Derived.WideKeyMaps
import Derived.Laws.Externs
import Derived.Lib.AppendZerosOnto
import Derived.MapKept
import Derived.Maps.RangeRun
import Derived.Laws.Cover3
import Derived.Lib.Bytealg
import Derived.Test.YtmifianbkpiifaaDoorProg
import Derived.Shelf.SlMaps.Clone
import Derived.DeepKeys3
import Derived.ProofKit
import Derived.Test.YtmifianbkpiifaaDoorRows
import Derived.LaidMore
import Derived.Lay
import Derived.MakeChecks
import Derived.Stop.Joined
set_option linter.unusedSectionVars false
namespace Go.Am
/-- Abstract values: anything; one exact value; a slice of memory that nobody writes (fresh or not, cells an element, its cells, its length); a pointer into such memory; a slice of a region of the call's own; a pointer into one; a struct; a tuple; .. ; a slice of memory that nobody writes, with no room behind. -/
inductive AV where
  | any
  | v (x : Value)
  | ro (fr : Bool) (z : Nat) (cs : List AV) (n : Nat)
  | rp (cs : List AV)
  | sl (r z off n : Nat)
  | pt (r off : Nat)
  | agg (l : List AV)
  | tup (l : List AV)
  | mp (r : Nat)
  | itr (r : Nat)
  | ob (o : Obj)
  | fn (f : FuncId) (l : List AV) (k : Nat)
  | rmp (fr : Bool) (es : Array MapEntry) (clock : Nat)
  | fu (z : Nat) (cs : List AV) (n : Nat)
  | mit (r : Nat) (m : Option Nat) (bm : Nat) (es : Array MapEntry) (ck : Nat)
  deriving Inhabited
structure Ctx where
  heap : Array Obj
  ro : Nat → Prop
  base : Nat
  phi : Nat → Option Nat
  live : Nat → Bool
  loc : Bool
def Ctx.out (C : Ctx) : Ctx := { C with loc := false }
mutual
def SimV : AV → Ctx → Value → Prop
  | .any, _, _ => True
  | .v x, _, y => y = x
  | .ro fr z cs n, C, y =>
      (n = 0 ∧ cs = [] ∧ ∃ a c, y = .slice a 0 c ∧ (fr = true → a = none ∧ c = 0)) ∨
      (∃ b o cap cur e fz, y = .slice (some ⟨b, o, none⟩) n cap ∧ C.heap[b]? = some (.cells cur e fz) ∧ C.ro b ∧ cs.length = n * z ∧ n ≤ cap ∧
        (fr = true → C.base ≤ b ∧ fz = (0, 0) ∧ o = 0 ∧ cap ≤ maxLen ∧ cap * z ≤ cur.size) ∧ SimL cs C.out (cur.toList.drop o))
  | .rp cs, C, y => ∃ b o cur e fz, y = .pointer (some ⟨b, o, none⟩) ∧ C.heap[b]? = some (.cells cur e fz) ∧ C.ro b ∧ SimL cs C.out (cur.toList.drop o)
  | .sl r z off n, C, y => C.loc = true ∧ C.live r = true ∧
      ((C.phi r = none ∧ off = 0 ∧ n = 0 ∧ y = .slice none 0 0) ∨
      (∃ b o cap cur e, C.phi r = some b ∧ y = .slice (some ⟨b, o, none⟩) n cap ∧ C.heap[b]? = some (.cells cur e (0, 0)) ∧ (o = off ∨ n = 0 ∧ 0 < off) ∧
        n ≤ cap ∧ cap ≤ maxLen ∧ o + cap * z ≤ cur.size))
  | .pt r off, C, y => C.loc = true ∧ C.live r = true ∧ ∃ b, C.phi r = some b ∧ y = .pointer (some ⟨b, off, none⟩) ∧ ∃ cur e, C.heap[b]? = some (.cells cur e (0, 0))
  | .agg l, C, y => ∃ a, y = .agg a ∧ a.size = l.length ∧ SimL l C a.toList
  | .tup l, C, y => ∃ a, y = .tuple a ∧ a.size = l.length ∧ SimL l C a.toList
  | .mp r, C, y => C.loc = true ∧ C.live r = true ∧ ∃ b, C.phi r = some b ∧ y = .map (some b)
  | .itr r, C, y => C.loc = true ∧ C.live r = true ∧ ∃ b, C.phi r = some b ∧ y = .pointer (some ⟨b, 0, none⟩)
  | .ob _, _, _ => False
  | .fn f l k, C, y => ∃ a b, y = .func (.func f) a b ∧ a.size = k ∧ a.size + b.size = l.length ∧ SimL l C (a.toList ++ b.toList)
  | .rmp fr es clock, C, y => ∃ b, y = Value.map (some b) ∧ C.heap[b]? = some (Obj.map es clock) ∧ C.ro b ∧ (fr = true → C.base ≤ b)
  | .fu z cs n, C, y => (n = 0 ∧ cs = [] ∧ ∃ a, y = .slice a 0 0) ∨
      ∃ b o cur e fz, y = .slice (some ⟨b, o, none⟩) n n ∧ C.heap[b]? = some (.cells cur e fz) ∧ C.ro b ∧ cs.length = n * z ∧ SimL cs C.out (cur.toList.drop o)
  | .mit r m bm es ck, C, y => C.loc = true ∧ C.live r = true ∧ (∃ b, C.phi r = some b ∧ y = .pointer (some ⟨b, 0, none⟩)) ∧
      ((∃ q, m = some q ∧ C.live q = true ∧ C.phi q = some bm) ∨ (m = none ∧ C.ro bm ∧ C.heap[bm]? = some (Obj.map es ck)))
def SimL : List AV → Ctx → List Value → Prop
  | [], _, _ => True
  | _ :: _, _, [] => False
  | a :: l, C, x :: xs => SimV a C x ∧ SimL l C xs
end
/-- From C to D nothing is lost of what is read of the regions that 'keep' tells. -/
structure Ctx.LeOn (keep : Nat → Bool) (C D : Ctx) : Prop where
  ro : ∀ b, C.ro b → D.ro b ∧ D.heap[b]? = C.heap[b]?
  base : D.base ≤ C.base
  loc : C.loc = true → D.loc = true
  live : C.loc = true → ∀ r, keep r = true → C.live r = true → D.live r = true ∧ D.phi r = C.phi r
  cell : C.loc = true → ∀ r b cur e, keep r = true → C.live r = true → C.phi r = some b → C.heap[b]? = some (.cells cur e (0, 0)) → ∃ cur', D.heap[b]? = some (.cells cur' e (0, 0)) ∧ cur.size ≤ cur'.size
mutual
/-- All regions that a value leads to are kept. -/
def refsV (keep : Nat → Bool) : AV → Bool
  | .sl r _ _ _ => keep r
  | .pt r _ => keep r
  | .agg l => refsL keep l
  | .tup l => refsL keep l
  | .any => true
  | .v _ => true
  | .ro _ _ _ _ => true
  | .rp _ => true
  | .mp r => keep r
  | .itr r => keep r
  | .ob _ => true
  | .fn _ l _ => refsL keep l
  | .rmp _ _ _ => true
  | .fu _ _ _ => true
  | .mit r m _ _ _ => keep r && m.all keep
def refsL (keep : Nat → Bool) : List AV → Bool
  | [] => true
  | a :: l => refsV keep a && refsL keep l
end
theorem Ctx.LeOn.out {keep : Nat → Bool} {C D : Ctx} (h : C.LeOn keep D) (keep' : Nat → Bool) : C.out.LeOn keep' D.out :=
  ⟨h.ro, h.base, fun e => by simp [Ctx.out] at e, fun e => by simp [Ctx.out] at e, fun e => by simp [Ctx.out] at e⟩
mutual
theorem refsV_all : ∀ x : AV, refsV (fun _ => true) x = true
  | .any => by simp [refsV]
  | .v _ => by simp [refsV]
  | .ro _ _ _ _ => by simp [refsV]
  | .rp _ => by simp [refsV]
  | .sl _ _ _ _ => by simp [refsV]
  | .pt _ _ => by simp [refsV]
  | .agg l => by simp [refsV, refsL_all l]
  | .tup l => by simp [refsV, refsL_all l]
  | .mp _ => by simp [refsV]
  | .itr _ => by simp [refsV]
  | .ob _ => by simp [refsV]
  | .fn _ l _ => by simp [refsV, refsL_all l]
  | .rmp _ _ _ => by simp [refsV]
  | .fu _ _ _ => by simp [refsV]
  | .mit _ m _ _ _ => by cases m <;> simp [refsV]
theorem refsL_all : ∀ l : List AV, refsL (fun _ => true) l = true
  | [] => by simp [refsL]
  | a :: l => by simp [refsL, refsV_all a, refsL_all l]
end
mutual
theorem SimV.on (keep : Nat → Bool) : ∀ (x : AV) (C D : Ctx) (y : Value), C.LeOn keep D → refsV keep x = true → SimV x C y → SimV x D y
  | .any, _, _, _, _, _, _ => by simp [SimV]
  | .v x, _, _, _, _, _, h => by simpa [SimV] using h
  | .ro fr z cs n, C, D, y, hl, _, h => by
    simp only [SimV] at h ⊢
    rcases h with h | ⟨b, o, cap, cur, e, fz, hy, hb, hr, hlen, hnc, hf, hs⟩
    · exact .inl h
    · refine .inr ⟨b, o, cap, cur, e, fz, hy, (hl.ro b hr).2.trans hb, (hl.ro b hr).1, hlen, hnc, fun e => ?_, SimL.on (fun _ => true) cs _ _ _ (hl.out _) (refsL_all cs) hs⟩
      obtain ⟨h1, h2⟩ := hf e
      exact ⟨Nat.le_trans hl.base h1, h2⟩
  | .rp cs, C, D, y, hl, _, h => by
    simp only [SimV] at h ⊢
    obtain ⟨b, o, cur, e, fz, hy, hb, hr, hs⟩ := h
    exact ⟨b, o, cur, e, fz, hy, (hl.ro b hr).2.trans hb, (hl.ro b hr).1, SimL.on (fun _ => true) cs _ _ _ (hl.out _) (refsL_all cs) hs⟩
  | .sl r z off n, C, D, y, hl, hk, h => by
    simp only [SimV, refsV] at h hk ⊢
    obtain ⟨hc, hr', h⟩ := h
    obtain ⟨hr, hp⟩ := hl.live hc r hk hr'
    refine ⟨hl.loc hc, hr, ?_⟩
    rcases h with ⟨h1, h2⟩ | ⟨b, o, cap, cur, e, h1, h2, h3, h4, h5, h6, h7⟩
    · exact .inl ⟨hp.trans h1, h2⟩
    · obtain ⟨cur', h8, h9⟩ := hl.cell hc r b cur e hk hr' h1 h3
      exact .inr ⟨b, o, cap, cur', e, hp.trans h1, h2, h8, h4, h5, h6, Nat.le_trans h7 h9⟩
  | .pt r off, C, D, y, hl, hk, h => by
    simp only [SimV, refsV] at h hk ⊢
    obtain ⟨hc, hr', b, h1, h2, cur, e, h3⟩ := h
    obtain ⟨hr, hp⟩ := hl.live hc r hk hr'
    obtain ⟨cur', h4, _⟩ := hl.cell hc r b cur e hk hr' h1 h3
    exact ⟨hl.loc hc, hr, b, hp.trans h1, h2, cur', e, h4⟩
  | .agg l, C, D, y, hl, hk, h => by
    simp only [SimV, refsV] at h hk ⊢
    obtain ⟨a, h1, h2, h3⟩ := h
    exact ⟨a, h1, h2, SimL.on keep l _ _ _ hl hk h3⟩
  | .tup l, C, D, y, hl, hk, h => by
    simp only [SimV, refsV] at h hk ⊢
    obtain ⟨a, h1, h2, h3⟩ := h
    exact ⟨a, h1, h2, SimL.on keep l _ _ _ hl hk h3⟩
  | .mp r, C, D, y, hl, hk, h => by
    simp only [SimV, refsV] at h hk ⊢
    obtain ⟨hc, hr', b, h1, h2⟩ := h
    obtain ⟨hr, hp⟩ := hl.live hc r hk hr'
    exact ⟨hl.loc hc, hr, b, hp.trans h1, h2⟩
  | .itr r, C, D, y, hl, hk, h => by
    simp only [SimV, refsV] at h hk ⊢
    obtain ⟨hc, hr', b, h1, h2⟩ := h
    obtain ⟨hr, hp⟩ := hl.live hc r hk hr'
    exact ⟨hl.loc hc, hr, b, hp.trans h1, h2⟩
  | .ob o, _, _, _, _, _, h => by simp [SimV] at h
  | .fn f l k, C, D, y, hl, hk, h => by
    simp only [SimV, refsV] at h hk ⊢
    obtain ⟨a, b, h1, h2, h3, h4⟩ := h
    exact ⟨a, b, h1, h2, h3, SimL.on keep l _ _ _ hl hk h4⟩
  | .fu z cs n, C, D, y, hl, _, h => by
    simp only [SimV] at h ⊢
    rcases h with h | ⟨b, o, cur, e, fz, hy, hb, hr, hlen, hs⟩
    · exact .inl h
    · exact .inr ⟨b, o, cur, e, fz, hy, (hl.ro b hr).2.trans hb, (hl.ro b hr).1, hlen, SimL.on (fun _ => true) cs _ _ _ (hl.out _) (refsL_all cs) hs⟩
  | .rmp fr es clock, C, D, y, hl, _, h => by
    simp only [SimV] at h ⊢
    obtain ⟨b, h1, h2, h3, h4⟩ := h
    exact ⟨b, h1, (hl.ro b h3).2.trans h2, (hl.ro b h3).1, fun e => Nat.le_trans hl.base (h4 e)⟩
  | .mit r m bm es ck, C, D, y, hl, hk, h => by
    simp only [SimV, refsV, Bool.and_eq_true] at h hk ⊢
    obtain ⟨hc, hr', ⟨b, h1, h2⟩, h3⟩ := h
    obtain ⟨hr, hp⟩ := hl.live hc r hk.1 hr'
    refine ⟨hl.loc hc, hr, ⟨b, hp.trans h1, h2⟩, ?_⟩
    rcases h3 with ⟨q, rfl, h4, h5⟩ | ⟨rfl, h4, h5⟩
    · obtain ⟨hq, hpq⟩ := hl.live hc q (by simpa using hk.2) h4
      exact .inl ⟨q, rfl, hq, hpq.trans h5⟩
    · exact .inr ⟨rfl, (hl.ro bm h4).1, (hl.ro bm h4).2.trans h5⟩
theorem SimL.on (keep : Nat → Bool) : ∀ (l : List AV) (C D : Ctx) (ys : List Value), C.LeOn keep D → refsL keep l = true → SimL l C ys → SimL l D ys
  | [], _, _, _, _, _, _ => by simp [SimL]
  | _ :: _, _, _, [], _, _, h => by simp [SimL] at h
  | a :: l, C, D, y :: ys, hl, hk, h => by
    simp only [SimL, refsL, Bool.and_eq_true] at h hk ⊢
    exact ⟨SimV.on keep a _ _ _ hl hk.1 h.1, SimL.on keep l _ _ _ hl hk.2 h.2⟩
end
/-- Nothing at all is lost. -/
abbrev Ctx.Le (C D : Ctx) : Prop := C.LeOn (fun _ => true) D
theorem SimV.mono (x : AV) (C D : Ctx) (y : Value) (hl : C.Le D) (h : SimV x C y) : SimV x D y := SimV.on _ x C D y hl (refsV_all x) h
theorem SimL.mono (l : List AV) (C D : Ctx) (ys : List Value) (hl : C.Le D) (h : SimL l C ys) : SimL l D ys := SimL.on _ l C D ys hl (refsL_all l) h
mutual
/-- What a context tells of leads to regions that live there. -/
theorem SimV.refs : ∀ (x : AV) (C : Ctx) (y : Value), SimV x C y → refsV C.live x = true
  | .any, _, _, _ => by simp [refsV]
  | .v _, _, _, _ => by simp [refsV]
  | .ro _ _ _ _, _, _, _ => by simp [refsV]
  | .rp _, _, _, _ => by simp [refsV]
  | .sl _ _ _ _, _, _, h => by simp only [SimV, refsV] at h ⊢; exact h.2.1
  | .pt _ _, _, _, h => by simp only [SimV, refsV] at h ⊢; exact h.2.1
  | .agg l, C, y, h => by
    simp only [SimV, refsV] at h ⊢
    obtain ⟨a, _, _, h⟩ := h
    exact SimL.refs l C _ h
  | .tup l, C, y, h => by
    simp only [SimV, refsV] at h ⊢
    obtain ⟨a, _, _, h⟩ := h
    exact SimL.refs l C _ h
  | .mp _, _, _, h => by simp only [SimV, refsV] at h ⊢; exact h.2.1
  | .itr _, _, _, h => by simp only [SimV, refsV] at h ⊢; exact h.2.1
  | .ob _, _, _, _ => by simp [refsV]
  | .fn f l k, C, y, h => by
    simp only [SimV, refsV] at h ⊢
    obtain ⟨a, b, _, _, _, h⟩ := h
    exact SimL.refs l C _ h
  | .rmp _ _ _, _, _, _ => by simp [refsV]
  | .fu _ _ _, _, _, _ => by simp [refsV]
  | .mit r m _ _ _, _, _, h => by
    simp only [SimV, refsV] at h ⊢
    obtain ⟨_, h1, _, ⟨q, rfl, h2, _⟩ | ⟨rfl, _⟩⟩ := h
    · simp [h1, h2]
    · simp [h1]
theorem SimL.refs : ∀ (l : List AV) (C : Ctx) (ys : List Value), SimL l C ys → refsL C.live l = true
  | [], _, _, _ => by simp [refsL]
  | _ :: _, _, [], h => by simp [SimL] at h
  | a :: l, C, y :: ys, h => by
    simp only [SimL, refsL, Bool.and_eq_true] at h ⊢
    exact ⟨SimV.refs a C y h.1, SimL.refs l C ys h.2⟩
end
theorem SimL.length_le : ∀ {l : List AV} {C : Ctx} {ys : List Value}, SimL l C ys → l.length ≤ ys.length
  | [], _, _, _ => by simp
  | _ :: _, _, [], h => by simp [SimL] at h
  | a :: l, C, y :: ys, h => by
    simp only [SimL] at h
    have := SimL.length_le h.2
    simpa using this
theorem SimL.get : ∀ {l : List AV} {C : Ctx} {ys : List Value} {i : Nat} {a : AV}, SimL l C ys → l[i]? = some a → ∃ y, ys[i]? = some y ∧ SimV a C y
  | [], _, _, _, _, _, h => by simp at h
  | _ :: _, _, [], _, _, h, _ => by simp [SimL] at h
  | x :: l, C, y :: ys, 0, a, h, hi => by
    simp only [SimL] at h
    simp at hi
    exact ⟨y, rfl, hi ▸ h.1⟩
  | x :: l, C, y :: ys, i + 1, a, h, hi => by
    simp only [SimL] at h
    simpa using SimL.get h.2 (by simpa using hi)
theorem SimL.of_get : ∀ {l : List AV} {C : Ctx} {ys : List Value}, (∀ (i : Nat) (a : AV), l[i]? = some a → ∃ y, ys[i]? = some y ∧ SimV a C y) → SimL l C ys
  | [], _, _, _ => by simp [SimL]
  | a :: l, C, [], h => by
    obtain ⟨y, h1, _⟩ := h 0 a rfl
    simp at h1
  | a :: l, C, y :: ys, h => by
    simp only [SimL]
    refine ⟨?_, SimL.of_get fun i b hb => by simpa using h (i + 1) b (by simpa using hb)⟩
    obtain ⟨y', h1, h2⟩ := h 0 a rfl
    simp at h1
    exact h1 ▸ h2
theorem SimL.drop {l : List AV} {C : Ctx} {ys : List Value} (k : Nat) (h : SimL l C ys) : SimL (l.drop k) C (ys.drop k) :=
  SimL.of_get fun i a hi => by
    rw [List.getElem?_drop] at hi ⊢
    exact h.get hi
theorem SimL.take {l : List AV} {C : Ctx} {ys : List Value} (k : Nat) (h : SimL l C ys) : SimL (l.take k) C ys :=
  SimL.of_get fun i a hi => by
    rw [List.getElem?_take] at hi
    split at hi
    · exact h.get hi
    · cases hi
theorem SimL.append {l m : List AV} {C : Ctx} {xs ys : List Value} (h : SimL l C xs) (hx : xs.length = l.length) (k : SimL m C ys) : SimL (l ++ m) C (xs ++ ys) :=
  SimL.of_get fun i a hi => by
    rw [List.getElem?_append] at hi ⊢
    rw [hx]
    split at hi
    · rename_i hlt; rw [if_pos hlt]; exact h.get hi
    · rename_i hlt; rw [if_neg hlt]; exact k.get hi
theorem SimL.longer {l : List AV} {C : Ctx} {xs ys : List Value} (h : SimL l C xs) : SimL l C (xs ++ ys) :=
  SimL.of_get fun i a hi => by
    obtain ⟨y, h1, h2⟩ := h.get hi
    refine ⟨y, ?_, h2⟩
    rw [List.getElem?_append_left (List.getElem?_eq_some_iff.1 h1).1]
    exact h1
theorem SimL.shorter {l : List AV} {C : Ctx} {xs : List Value} (h : SimL l C xs) (k : Nat) (hk : l.length ≤ k) : SimL l C (xs.take k) :=
  SimL.of_get fun i a hi => by
    obtain ⟨y, h1, h2⟩ := h.get hi
    have := (List.getElem?_eq_some_iff.1 hi).1
    exact ⟨y, by rw [List.getElem?_take, if_pos (by omega)]; exact h1, h2⟩
theorem SimL.set {l : List AV} {C : Ctx} {xs : List Value} {i : Nat} {a : AV} {y : Value} (h : SimL l C xs) (ha : SimV a C y) (hi : i < l.length) : SimL (l.set i a) C (xs.set i y) :=
  SimL.of_get fun j b hb => by
    rw [List.getElem?_set] at hb ⊢
    have hle := h.length_le
    by_cases hij : i = j
    · subst hij
      simp [hi] at hb
      exact ⟨y, by simp; omega, hb ▸ ha⟩
    · simp [hij] at hb ⊢
      exact h.get hb

/- Killing a region: what points into it is forgotten. -/
mutual
def killV (r : Nat) : AV → AV
  | .sl q z off n => if q = r then .any else .sl q z off n
  | .pt q off => if q = r then .any else .pt q off
  | .agg l => .agg (killL r l)
  | .tup l => .tup (killL r l)
  | .any => .any
  | .v x => .v x
  | .ro fr z cs n => .ro fr z cs n
  | .rp cs => .rp cs
  | .mp q => if q = r then .any else .mp q
  | .itr q => if q = r then .any else .itr q
  | .ob o => .ob o
  | .fn f l k => .fn f (killL r l) k
  | .rmp fr es clock => .rmp fr es clock
  | .fu z cs n => .fu z cs n
  | .mit q m bm es ck => if q = r ∨ m = some r then .any else .mit q m bm es ck
def killL (r : Nat) : List AV → List AV
  | [] => []
  | a :: l => killV r a :: killL r l
end
theorem killL_eq_map (r : Nat) : ∀ l : List AV, killL r l = l.map (killV r)
  | [] => by simp [killL]
  | a :: l => by simp [killL, killL_eq_map r l]
mutual
/-- What is left behind a kill is still told, and leads to the killed region no more. -/
theorem SimV.weak_kill (r : Nat) : ∀ (x : AV) (C : Ctx) (y : Value), SimV x C y → SimV (killV r x) C y
  | .any, _, _, _ => by simp [SimV, killV]
  | .v x, _, _, h => by simpa [SimV, killV] using h
  | .ro fr z cs n, C, y, h => by simpa only [killV] using h
  | .rp cs, C, y, h => by simpa only [killV] using h
  | .sl q z off n, C, y, h => by
    simp only [killV]
    split
    · simp [SimV]
    · exact h
  | .pt q off, C, y, h => by
    simp only [killV]
    split
    · simp [SimV]
    · exact h
  | .agg l, C, y, h => by
    simp only [killV, SimV] at h ⊢
    obtain ⟨a, h1, h2, h3⟩ := h
    exact ⟨a, h1, by rw [h2, killL_eq_map, List.length_map], SimL.weak_kill r l C _ h3⟩
  | .tup l, C, y, h => by
    simp only [killV, SimV] at h ⊢
    obtain ⟨a, h1, h2, h3⟩ := h
    exact ⟨a, h1, by rw [h2, killL_eq_map, List.length_map], SimL.weak_kill r l C _ h3⟩
  | .mp q, C, y, h => by
    simp only [killV]
    split
    · simp [SimV]
    · exact h
  | .itr q, C, y, h => by
    simp only [killV]
    split
    · simp [SimV]
    · exact h
  | .ob o, C, y, h => by simp [SimV] at h
  | .fn f l k, C, y, h => by
    simp only [killV, SimV] at h ⊢
    obtain ⟨a, b, h1, h2, h3, h4⟩ := h
    exact ⟨a, b, h1, h2, by rw [h3, killL_eq_map, List.length_map], SimL.weak_kill r l C _ h4⟩
  | .rmp fr es clock, C, y, h => by simpa only [killV] using h
  | .fu z cs n, C, y, h => by simpa only [killV] using h
  | .mit q m bm es ck, C, y, h => by
    simp only [killV]
    split
    · simp [SimV]
    · exact h
theorem SimL.weak_kill (r : Nat) : ∀ (l : List AV) (C : Ctx) (ys : List Value), SimL l C ys → SimL (killL r l) C ys
  | [], _, _, _ => by simp [SimL, killL]
  | _ :: _, _, [], h => by simp [SimL] at h
  | a :: l, C, y :: ys, h => by
    simp only [SimL, killL] at h ⊢
    exact ⟨SimV.weak_kill r a C y h.1, SimL.weak_kill r l C ys h.2⟩
end
mutual
theorem refsV_kill (r : Nat) : ∀ x : AV, refsV (fun q => !(q == r)) (killV r x) = true
  | .any => by simp [refsV, killV]
  | .v _ => by simp [refsV, killV]
  | .ro _ _ _ _ => by simp [refsV, killV]
  | .rp _ => by simp [refsV, killV]
  | .sl q _ _ _ => by by_cases h : q = r <;> simp [refsV, killV, h]
  | .pt q _ => by by_cases h : q = r <;> simp [refsV, killV, h]
  | .agg l => by simp [refsV, killV, refsL_kill r l]
  | .tup l => by simp [refsV, killV, refsL_kill r l]
  | .mp q => by by_cases h : q = r <;> simp [refsV, killV, h]
  | .itr q => by by_cases h : q = r <;> simp [refsV, killV, h]
  | .ob _ => by simp [refsV, killV]
  | .fn _ l _ => by simp [refsV, killV, refsL_kill r l]
  | .rmp _ _ _ => by simp [refsV, killV]
  | .fu _ _ _ => by simp [refsV, killV]
  | .mit q m _ _ _ => by
    by_cases h : q = r ∨ m = some r
    · simp [refsV, killV, h]
    · rw [killV, if_neg h]
      have h1 : q ≠ r := fun e => h (.inl e)
      have h2 : m ≠ some r := fun e => h (.inr e)
      cases m with
      | none => simp [refsV, h1]
      | some k => have : k ≠ r := fun e => h2 (by rw [e]); simp [refsV, h1, this]
theorem refsL_kill (r : Nat) : ∀ l : List AV, refsL (fun q => !(q == r)) (killL r l) = true
  | [] => by simp [refsL, killL]
  | a :: l => by simp [refsL, killL, refsV_kill r a, refsL_kill r l]
end
theorem SimV.kill (r : Nat) (x : AV) (C D : Ctx) (y : Value) (hl : C.LeOn (fun q => !(q == r)) D) (h : SimV x C y) : SimV (killV r x) D y :=
  SimV.on _ _ C D y hl (refsV_kill r x) (SimV.weak_kill r x C y h)
theorem SimL.kill (r : Nat) (l : List AV) (C D : Ctx) (ys : List Value) (hl : C.LeOn (fun q => !(q == r)) D) (h : SimL l C ys) : SimL (killL r l) D ys :=
  SimL.on _ _ C D ys hl (refsL_kill r l) (SimL.weak_kill r l C ys h)
/- Dropping regions, all that p tells. -/
mutual
def dropV (p : Nat → Bool) : AV → AV
  | .sl q z off n => if p q = true then .any else .sl q z off n
  | .pt q off => if p q = true then .any else .pt q off
  | .agg l => .agg (dropL p l)
  | .tup l => .tup (dropL p l)
  | .any => .any
  | .v x => .v x
  | .ro fr z cs n => .ro fr z cs n
  | .rp cs => .rp cs
  | .mp q => if p q = true then .any else .mp q
  | .itr q => if p q = true then .any else .itr q
  | .ob o => .ob o
  | .fn f l k => .fn f (dropL p l) k
  | .rmp fr es clock => .rmp fr es clock
  | .fu z cs n => .fu z cs n
  | .mit q m bm es ck => if (p q || m.any p) = true then .any else .mit q m bm es ck
def dropL (p : Nat → Bool) : List AV → List AV
  | [] => []
  | a :: l => dropV p a :: dropL p l
end
theorem dropL_eq_map (p : Nat → Bool) : ∀ l : List AV, dropL p l = l.map (dropV p)
  | [] => by simp [dropL]
  | a :: l => by simp [dropL, dropL_eq_map p l]
mutual
/-- What is left is still told. -/
theorem SimV.weak_drop (p : Nat → Bool) : ∀ (x : AV) (C : Ctx) (y : Value), SimV x C y → SimV (dropV p x) C y
  | .any, _, _, _ => by simp [SimV, dropV]
  | .v x, _, _, h => by simpa [SimV, dropV] using h
  | .ro fr z cs n, C, y, h => by simpa only [dropV] using h
  | .rp cs, C, y, h => by simpa only [dropV] using h
  | .sl q z off n, C, y, h => by
    simp only [dropV]
    split
    · simp [SimV]
    · exact h
  | .pt q off, C, y, h => by
    simp only [dropV]
    split
    · simp [SimV]
    · exact h
  | .agg l, C, y, h => by
    simp only [dropV, SimV] at h ⊢
    obtain ⟨a, h1, h2, h3⟩ := h
    exact ⟨a, h1, by rw [h2, dropL_eq_map, List.length_map], SimL.weak_drop p l C _ h3⟩
  | .tup l, C, y, h => by
    simp only [dropV, SimV] at h ⊢
    obtain ⟨a, h1, h2, h3⟩ := h
    exact ⟨a, h1, by rw [h2, dropL_eq_map, List.length_map], SimL.weak_drop p l C _ h3⟩
  | .mp q, C, y, h => by
    simp only [dropV]
    split
    · simp [SimV]
    · exact h
  | .itr q, C, y, h => by
    simp only [dropV]
    split
    · simp [SimV]
    · exact h
  | .ob o, C, y, h => by simp [SimV] at h
  | .fn f l k, C, y, h => by
    simp only [dropV, SimV] at h ⊢
    obtain ⟨a, b, h1, h2, h3, h4⟩ := h
    exact ⟨a, b, h1, h2, by rw [h3, dropL_eq_map, List.length_map], SimL.weak_drop p l C _ h4⟩
  | .rmp fr es clock, C, y, h => by simpa only [dropV] using h
  | .fu z cs n, C, y, h => by simpa only [dropV] using h
  | .mit q m bm es ck, C, y, h => by
    simp only [dropV]
    split
    · simp [SimV]
    · exact h
theorem SimL.weak_drop (p : Nat → Bool) : ∀ (l : List AV) (C : Ctx) (ys : List Value), SimL l C ys → SimL (dropL p l) C ys
  | [], _, _, _ => by simp [SimL, dropL]
  | _ :: _, _, [], h => by simp [SimL] at h
  | a :: l, C, y :: ys, h => by
    simp only [SimL, dropL] at h ⊢
    exact ⟨SimV.weak_drop p a C y h.1, SimL.weak_drop p l C ys h.2⟩
end
mutual
theorem refsV_drop (p : Nat → Bool) : ∀ x : AV, refsV (fun q => !(p q)) (dropV p x) = true
  | .any => by simp [refsV, dropV]
  | .v _ => by simp [refsV, dropV]
  | .ro _ _ _ _ => by simp [refsV, dropV]
  | .rp _ => by simp [refsV, dropV]
  | .sl q _ _ _ => by by_cases h : p q = true <;> simp [refsV, dropV, h]
  | .pt q _ => by by_cases h : p q = true <;> simp [refsV, dropV, h]
  | .agg l => by simp [refsV, dropV, refsL_drop p l]
  | .tup l => by simp [refsV, dropV, refsL_drop p l]
  | .mp q => by by_cases h : p q = true <;> simp [refsV, dropV, h]
  | .itr q => by by_cases h : p q = true <;> simp [refsV, dropV, h]
  | .ob _ => by simp [refsV, dropV]
  | .fn _ l _ => by simp [refsV, dropV, refsL_drop p l]
  | .rmp _ _ _ => by simp [refsV, dropV]
  | .fu _ _ _ => by simp [refsV, dropV]
  | .mit q m _ _ _ => by
    by_cases h : (p q || m.any p) = true
    · rw [dropV, if_pos h]; simp [refsV]
    · rw [dropV, if_neg h]
      cases m <;> simp_all [refsV]
theorem refsL_drop (p : Nat → Bool) : ∀ l : List AV, refsL (fun q => !(p q)) (dropL p l) = true
  | [] => by simp [refsL, dropL]
  | a :: l => by simp [refsL, dropL, refsV_drop p a, refsL_drop p l]
end
theorem SimV.dropP (p : Nat → Bool) (x : AV) (C D : Ctx) (y : Value) (hl : C.LeOn (fun q => !(p q)) D) (h : SimV x C y) : SimV (dropV p x) D y :=
  SimV.on _ _ C D y hl (refsV_drop p x) (SimV.weak_drop p x C y h)
theorem SimL.dropP (p : Nat → Bool) (l : List AV) (C D : Ctx) (ys : List Value) (hl : C.LeOn (fun q => !(p q)) D) (h : SimL l C ys) : SimL (dropL p l) D ys :=
  SimL.on _ _ C D ys hl (refsL_drop p l) (SimL.weak_drop p l C ys h)
end Go.Am
namespace Go.Am
/-- Functions of the seat's that are lent regions within an open order: none. -/
def ownF : List FuncId := []
/-- Functions of the seat's whose new list is mine within an open order, if it is moved: none. -/
def ownM : List FuncId := []
/-- Are calls of function values lent regions of mine, too, in an open order? -/
def ownFV : Bool := false
/-- Regions of at most so many operations may be told by all of their orders. -/
def altMax : Nat := 9
/-- Blocks that nobody writes, and what their cells are: those that a law's bytes lie in. -/
class CodeBlk where
  blks : List (Nat × Array Value)
variable [CodeBlk]
def goodB : List Nat := CodeBlk.blks.map (·.1)
/-- What the cells of such a block are. -/
def goodC : Nat → Array Value → Prop := fun b cur => ∀ p ∈ CodeBlk.blks, p.1 = b → p.2 = cur
def GoodW (w : World) : Prop := ∀ b ∈ goodB, ∃ cur e fz, w.heap[b]? = some (.cells cur e fz) ∧ goodC b cur
theorem goodW_none {w : World} (h : goodB = []) : GoodW w := fun b hb => by rw [h] at hb; cases hb
/-- They are so at the beginning, and none of them is lent. -/
structure GoodB (w0 : World) (mu : Nat → Option Nat) : Prop where
  wld : GoodW w0
  off : ∀ r b, mu r = some b → b ∉ goodB
end Go.Am
namespace Go.Am
variable [Go.Am.CodeBlk]
/-- An abstract state: what each slot holds; of each region of the call's own, whether its cells lead to no other region, and its cells. -/
structure AS where
  tm : Nat → AV
  hp : Nat → Option (Bool × List AV)
def AS.put (s : AS) (d : Option Nat) (x : AV) : AS :=
  match d with
  | some d => { s with tm := fun t => if t = d then x else s.tm t }
  | none => s
def killR (r : Nat) : Bool × List AV → Bool × List AV
  | (true, cs) => (true, cs)
  | (false, cs) => (false, killL r cs)
def AS.kill (s : AS) (r : Nat) : AS := ⟨fun t => killV r (s.tm t), fun q => if q = r then none else (s.hp q).map (killR r)⟩
def AS.mem (s : AS) (r : Nat) (c : Bool × List AV) : AS := { s with hp := fun q => if q = r then some c else s.hp q }
def ctx (w0 w : World) (ro : Nat → Prop) (phi : Nat → Option Nat) (s : AS) : Ctx :=
  { heap := w.heap, ro, base := w0.heap.size, phi, live := fun r => (s.hp r).isSome, loc := true }
def isCells : Obj → Bool
  | .cells _ _ _ => true
  | _ => false
def SimR (c : Bool × List AV) (C : Ctx) (ys : List Value) : Prop := SimL c.2 (if c.1 then C.out else C) ys
/-- Regions from this number on are a caller's. -/
def pbase : Nat := 4000000
/-- Regions from this number on are given to a call, for good. -/
def gvb : Nat := 16000000
/-- A block that a call may have for its own: a new one, or one that it was given. -/
def Mine (w0 : World) (mu : Nat → Option Nat) (b : Nat) : Prop := w0.heap.size ≤ b ∨ ∃ r, gvb ≤ r ∧ mu r = some b
/-- The model's slots and memory are asx the abstract state says: w0: the world when the call began; mu: the elder blocks that it may write. -/
structure Sim (w0 : World) (mu : Nat → Option Nat) (N : Nat) (s : AS) (tm : Array Value) (w : World) (phi : Nat → Option Nat) (ro : Nat → Prop) : Prop where
  os : w.os = w0.os
  tape : w.tape = w0.tape
  output : w.output = w0.output
  size : w0.heap.size ≤ w.heap.size
  kept : ∀ b, b < w0.heap.size → (∀ r, mu r ≠ some b) → w.heap[b]? = w0.heap[b]?
  shp : ∀ (b : Nat) (cur : Array Value) (e : TypeId) (f : Nat × Nat), w0.heap[b]? = some (.cells cur e f) → ∃ cur' : Array Value, w.heap[b]? = some (.cells cur' e f) ∧ cur'.size = cur.size
  npb : N ≤ pbase
  gd : GoodB w0 mu
  rob : ∀ b, ro b → b < w.heap.size
  inj : ∀ r r' b, (s.hp r).isSome = true → (s.hp r').isSome = true → phi r = some b → phi r' = some b → r = r'
  liv : ∀ r c, s.hp r = some c → (phi r = none ∧ c.2 = [] ∧ (pbase ≤ r → mu r = none)) ∨
    (∃ b cur e, phi r = some b ∧ w.heap[b]? = some (.cells cur e (0, 0)) ∧ ¬ ro b ∧ (r < pbase ∧ Mine w0 mu b ∨ pbase ≤ r ∧ mu r = some b) ∧ SimR c (ctx w0 w ro phi s) cur.toList) ∨
    ∃ b o, c = (true, [.ob o]) ∧ phi r = some b ∧ w.heap[b]? = some o ∧ isCells o = false ∧ ¬ ro b ∧ (r < pbase ∧ Mine w0 mu b ∨ pbase ≤ r ∧ mu r = some b)
  tms : ∀ t, SimV (s.tm t) (ctx w0 w ro phi s) (tm.getD t undef)
  slots : N ≤ tm.size
theorem Sim.goodW {w0 w : World} {mu : Nat → Option Nat} {N : Nat} {s : AS} {tm : Array Value} {phi : Nat → Option Nat} {ro : Nat → Prop} (h : Sim w0 mu N s tm w phi ro) : GoodW w := by
  intro b hb
  obtain ⟨cur, e, fz, h1, h2⟩ := h.gd.wld b hb
  exact ⟨cur, e, fz, (h.kept b (Array.getElem?_eq_some_iff.1 h1).1 fun r hr => h.gd.off r b hr hb).trans h1, h2⟩
theorem Sim.regGood {w0 w : World} {mu : Nat → Option Nat} {N : Nat} {s : AS} {tm : Array Value} {phi : Nat → Option Nat} {ro : Nat → Prop} (h : Sim w0 mu N s tm w phi ro) {r b : Nat} {c : Bool × List AV} (hr : s.hp r = some c) (hb : phi r = some b) : b ∉ goodB := by
  intro hm
  obtain ⟨cur0, e0, fz, h1, _⟩ := h.gd.wld b hm
  have hlt := (Array.getElem?_eq_some_iff.1 h1).1
  have key : (r < pbase ∧ Mine w0 mu b ∨ pbase ≤ r ∧ mu r = some b) → False := by
    rintro (⟨_, h2 | ⟨r', _, h2⟩⟩ | ⟨_, h2⟩)
    · omega
    · exact h.gd.off r' b h2 hm
    · exact h.gd.off r b h2 hm
  rcases h.liv r c hr with ⟨h2, _⟩ | ⟨b', cur, e, h2, _, _, h3, _⟩ | ⟨b', o, _, h2, _, _, _, h3⟩
  · rw [h2] at hb; cases hb
  · rw [h2] at hb; cases hb; exact key h3
  · rw [h2] at hb; cases hb; exact key h3
theorem SimR.mono {c : Bool × List AV} {C D : Ctx} {ys : List Value} (h : SimR c C ys) (hl : C.Le D) : SimR c D ys := by
  unfold SimR at *
  split
  · rename_i hc; rw [if_pos hc] at h; exact SimL.mono _ _ _ _ (hl.out _) h
  · rename_i hc; rw [if_neg hc] at h; exact SimL.mono _ _ _ _ hl h
theorem SimR.kill {r : Nat} {c : Bool × List AV} {C D : Ctx} {ys : List Value} (h : SimR c C ys) (hl : C.LeOn (fun q => !(q == r)) D) : SimR (killR r c) D ys := by
  obtain ⟨f, cs⟩ := c
  cases f
  · simp only [SimR, killR, Bool.false_eq_true, if_false] at h ⊢
    exact SimL.kill r _ _ _ _ hl h
  · simp only [SimR, killR, if_true] at h ⊢
    exact SimL.mono _ _ _ _ (hl.out _) h
/-- A slot is written. -/
theorem Sim.put {w0 w : World} {mu : Nat → Option Nat} {N : Nat} {s : AS} {a : Act} {phi : Nat → Option Nat} {ro : Nat → Prop} (h : Sim w0 mu N s a.tmps w phi ro)
    {d : Option Nat} (hd : ∀ k, d = some k → k < N) {x : AV} {v : Value} (hx : SimV x (ctx w0 w ro phi s) v) : Sim w0 mu N (s.put d x) (a.put d v).tmps w phi ro := by
  cases d with
  | none => exact h
  | some d =>
    refine { h with tms := fun t => ?_, slots := by simpa [Act.put] using h.slots }
    have hdn : d < a.tmps.size := Nat.lt_of_lt_of_le (hd d rfl) h.slots
    simp only [AS.put, Act.put]
    by_cases htd : t = d
    · subst htd
      simpa [hdn, ctx] using hx
    · have hdt : d ≠ t := fun e => htd e.symm
      have := h.tms t
      simp only [Array.getD_eq_getD_getElem?] at this
      simpa [htd, Array.getElem?_setIfInBounds_ne hdt, ctx] using this
/-- The world has grown: new blocks, draws; all that was there is asx it was. -/
structure More (w w' : World) : Prop where
  os : w'.os = w.os
  tape : w'.tape = w.tape
  output : w'.output = w.output
  size : w.heap.size ≤ w'.heap.size
  block : ∀ b, b < w.heap.size → w'.heap[b]? = w.heap[b]?
theorem More.refl (w : World) : More w w := ⟨rfl, rfl, rfl, Nat.le_refl _, fun _ _ => rfl⟩
theorem More.trans {a b c : World} (h : More a b) (k : More b c) : More a c :=
  ⟨k.os.trans h.os, k.tape.trans h.tape, k.output.trans h.output, Nat.le_trans h.size k.size, fun i hi => (k.block i (Nat.lt_of_lt_of_le hi h.size)).trans (h.block i hi)⟩
theorem More.drew (w : World) : More w w.drew := ⟨rfl, rfl, rfl, Nat.le_refl _, fun _ _ => rfl⟩
theorem More.alloc (w : World) (o : Obj) : More w (w.alloc o) := ⟨rfl, rfl, rfl, by simp, fun b hb => heap_alloc_old w o hb⟩
theorem lt_of_get {h : Array Obj} {b : Nat} {o : Obj} (e : h[b]? = some o) : b < h.size := (Array.getElem?_eq_some_iff.1 e).1
theorem Ctx.le_more {w0 w w' : World} {ro : Nat → Prop} {phi : Nat → Option Nat} {s : AS} (hm : More w w') (rob : ∀ b, ro b → b < w.heap.size)
    (ro' : Nat → Prop) (hro : ∀ b, ro b → ro' b) : (ctx w0 w ro phi s).Le (ctx w0 w' ro' phi s) :=
  ⟨fun b hb => ⟨hro b hb, hm.block b (rob b hb)⟩, Nat.le_refl _, id, fun _ _ _ hr => ⟨hr, rfl⟩, fun _ _ b cur _ _ _ _ hb => ⟨cur, (hm.block b (lt_of_get hb)).trans hb, Nat.le_refl _⟩⟩
/-- Sim is kept while the world grows; the readable blocks may grow by new ones. -/
theorem Sim.more {w0 w w' : World} {mu : Nat → Option Nat} {N : Nat} {s : AS} {tm : Array Value} {phi : Nat → Option Nat} {ro : Nat → Prop} (h : Sim w0 mu N s tm w phi ro)
    (hm : More w w') (ro' : Nat → Prop) (hro : ∀ b, ro b → ro' b) (hnew : ∀ b, ro' b → ro b ∨ w.heap.size ≤ b ∧ b < w'.heap.size) : Sim w0 mu N s tm w' phi ro' where
  os := hm.os.trans h.os
  tape := hm.tape.trans h.tape
  output := hm.output.trans h.output
  size := Nat.le_trans h.size hm.size
  kept := fun b hb hmu => (hm.block b (Nat.lt_of_lt_of_le hb h.size)).trans (h.kept b hb hmu)
  shp := fun b cur e f hb => by
    obtain ⟨cur', h1, h2⟩ := h.shp b cur e f hb
    exact ⟨cur', (hm.block b (lt_of_get h1)).trans h1, h2⟩
  npb := h.npb
  gd := h.gd
  rob := fun b hb => by
    rcases hnew b hb with h1 | h1
    · exact Nat.lt_of_lt_of_le (h.rob b h1) hm.size
    · exact h1.2
  inj := h.inj
  liv := fun r c hr => by
    rcases h.liv r c hr with h1 | ⟨b, cur, e, h1, h2, h3, h4, h5⟩ | ⟨b, o, h0, h1, h2, h3, h4, h5⟩
    · exact .inl h1
    · refine .inr (.inl ⟨b, cur, e, h1, (hm.block b (lt_of_get h2)).trans h2, fun hb => ?_, h4, h5.mono (Ctx.le_more hm h.rob ro' hro)⟩)
      have hlt := lt_of_get h2
      rcases hnew b hb with h6 | h6
      · exact h3 h6
      · omega
    · refine .inr (.inr ⟨b, o, h0, h1, (hm.block b (lt_of_get h2)).trans h2, h3, fun hb => ?_, h5⟩)
      have hlt := lt_of_get h2
      rcases hnew b hb with h6 | h6
      · exact h4 h6
      · omega
  tms := fun t => SimV.mono _ _ _ _ (Ctx.le_more hm h.rob ro' hro) (h.tms t)
  slots := h.slots
theorem Sim.more_same {w0 w w' : World} {mu : Nat → Option Nat} {N : Nat} {s : AS} {tm : Array Value} {phi : Nat → Option Nat} {ro : Nat → Prop} (h : Sim w0 mu N s tm w phi ro)
    (hm : More w w') : Sim w0 mu N s tm w' phi ro := h.more hm ro (fun _ h => h) (fun _ h => .inl h)
/-- A region is forgotten, and with it all that leads to it. -/
theorem Sim.kill {w0 w : World} {mu : Nat → Option Nat} {N : Nat} {s : AS} {tm : Array Value} {phi : Nat → Option Nat} {ro : Nat → Prop} (h : Sim w0 mu N s tm w phi ro) (r : Nat) :
    Sim w0 mu N (s.kill r) tm w phi ro := by
  have hle : (ctx w0 w ro phi s).LeOn (fun q => !(q == r)) (ctx w0 w ro phi (s.kill r)) := by
    refine ⟨fun b hb => ⟨hb, rfl⟩, Nat.le_refl _, id, fun _ q hq hl => ⟨?_, rfl⟩, fun _ q b cur e _ _ _ hb => ⟨cur, hb, Nat.le_refl _⟩⟩
    have hqr : q ≠ r := by simpa using hq
    simpa [ctx, AS.kill, hqr] using hl
  have hlive : ∀ q, ((s.kill r).hp q).isSome = true → q ≠ r ∧ (s.hp q).isSome = true := by
    intro q hq
    by_cases hqr : q = r
    · simp [AS.kill, hqr] at hq
    · exact ⟨hqr, by simpa [AS.kill, hqr] using hq⟩
  exact { h with
    inj := fun q q' b hq hq' h1 h2 => h.inj q q' b (hlive q hq).2 (hlive q' hq').2 h1 h2
    liv := fun q c hq => by
      have hqr : q ≠ r := (hlive q (by simp [hq])).1
      simp only [AS.kill, hqr, if_false, Option.map_eq_some_iff] at hq
      obtain ⟨c0, hq0, rfl⟩ := hq
      rcases h.liv q c0 hq0 with ⟨h1, h2, h3⟩ | ⟨b, cur, e, h1, h2, h3, h4, h5⟩ | ⟨b, o, rfl, h1, h2, h3, h4, h5⟩
      · exact .inl ⟨h1, (by obtain ⟨f, cs⟩ := c0; cases f <;> simp_all [killR, killL]), h3⟩
      · exact .inr (.inl ⟨b, cur, e, h1, h2, h3, h4, h5.kill hle⟩)
      · exact .inr (.inr ⟨b, o, rfl, h1, h2, h3, h4, h5⟩)
    tms := fun t => SimV.kill r _ _ _ _ hle (h.tms t) }
theorem refsL_eq {keep : Nat → Bool} {r : Nat} (h : ∀ q, keep q = true → q ≠ r) (l : List AV) (hl : refsL keep l = true) : refsL (fun q => !(q == r)) l = true := by
  have key := AV.rec_1 (motive_1 := fun x => refsV keep x = true → refsV (fun q => !(q == r)) x = true) (motive_2 := fun l => refsL keep l = true → refsL (fun q => !(q == r)) l = true)
    (by simp [refsV]) (by simp [refsV]) (by intros; simp [refsV]) (by intros; simp [refsV]) (fun q _ _ _ hq => by simp only [refsV] at hq ⊢; simpa using h q hq)
    (fun q _ hq => by simp only [refsV] at hq ⊢; simpa using h q hq) (fun l hl hq => by simp only [refsV] at hq ⊢; exact hl hq) (fun l hl hq => by simp only [refsV] at hq ⊢; exact hl hq)
    (fun q hq => by simp only [refsV] at hq ⊢; simpa using h q hq) (fun q hq => by simp only [refsV] at hq ⊢; simpa using h q hq) (by intros; simp [refsV]) (fun f l k hl hq => by simp only [refsV] at hq ⊢; exact hl hq) (by intros; simp [refsV]) (by intros; simp [refsV]) (fun q m _ _ _ hq => by
      simp only [refsV, Bool.and_eq_true] at hq ⊢
      refine ⟨by simpa using h q hq.1, ?_⟩
      cases m with
      | none => rfl
      | some k => simpa using h k (by simpa using hq.2))
    (by simp [refsL]) (fun a l ha hl hq => by simp only [refsL, Bool.and_eq_true] at hq ⊢; exact ⟨ha hq.1, hl hq.2⟩) l
  exact key hl
theorem refsV_eq {keep : Nat → Bool} {r : Nat} (h : ∀ q, keep q = true → q ≠ r) (x : AV) (hx : refsV keep x = true) : refsV (fun q => !(q == r)) x = true := by
  have := refsL_eq h [x] (by simp [refsL, hx])
  simpa [refsL] using this
/-- A region r that is not there comes to be: at a block of the call's own that no other region has and that is not readable; or, empty, nowhere. -/
theorem Sim.born {w0 w : World} {mu : Nat → Option Nat} {N : Nat} {s : AS} {tm : Array Value} {phi : Nat → Option Nat} {ro : Nat → Prop} (h : Sim w0 mu N s tm w phi ro)
    {r : Nat} (hr : s.hp r = none) (hpb : r < pbase) (c : Bool × List AV) (bo : Option Nat)
    (hb : match bo with
      | none => c.2 = []
      | some b => ¬ ro b ∧ Mine w0 mu b ∧ (∀ q, (s.hp q).isSome = true → phi q ≠ some b) ∧
          ((∃ cur e, w.heap[b]? = some (.cells cur e (0, 0)) ∧ SimR c (ctx w0 w ro (fun q => if q = r then bo else phi q) (s.mem r c)) cur.toList) ∨ ∃ o, c = (true, [.ob o]) ∧ w.heap[b]? = some o ∧ isCells o = false)) :
    Sim w0 mu N (s.mem r c) tm w (fun q => if q = r then bo else phi q) ro := by
  have hne : ∀ q, (s.hp q).isSome = true → q ≠ r := fun q hq e => by subst e; simp [hr] at hq
  have hle : (ctx w0 w ro phi s).LeOn (fun q => !(q == r)) (ctx w0 w ro (fun q => if q = r then bo else phi q) (s.mem r c)) := by
    refine ⟨fun b hb => ⟨hb, rfl⟩, Nat.le_refl _, id, fun _ q hq hl => ?_, fun _ q b cur e _ _ _ hb => ⟨cur, hb, Nat.le_refl _⟩⟩
    have hqr : q ≠ r := by simpa using hq
    refine ⟨?_, by simp [ctx, hqr]⟩
    simpa [ctx, AS.mem, hqr] using hl
  have hlive : ∀ q, q ≠ r → ((s.mem r c).hp q).isSome = true → (s.hp q).isSome = true := by
    intro q hqr hq
    simpa [AS.mem, hqr] using hq
  exact { h with
    inj := fun q q' b hq hq' h1 h2 => by
      by_cases hqr : q = r
      · by_cases hqr' : q' = r
        · rw [hqr, hqr']
        · simp only [hqr, if_true] at h1
          simp only [hqr', if_false] at h2
          subst h1
          obtain ⟨_, _, h3, _⟩ := hb
          exact absurd h2 (h3 q' (hlive q' hqr' hq'))
      · simp only [hqr, if_false] at h1
        by_cases hqr' : q' = r
        · simp only [hqr', if_true] at h2
          subst h2
          obtain ⟨_, _, h3, _⟩ := hb
          exact absurd h1 (h3 q (hlive q hqr hq))
        · simp only [hqr', if_false] at h2
          exact h.inj q q' b (hlive q hqr hq) (hlive q' hqr' hq') h1 h2
    liv := fun q c' hq => by
      by_cases hqr : q = r
      · subst hqr
        simp only [AS.mem, if_true, Option.some.injEq] at hq
        subst hq
        cases bo with
        | none => exact .inl ⟨by simp, hb, fun hh => by omega⟩
        | some b =>
          obtain ⟨h2, h3, _, hb⟩ := hb
          rcases hb with ⟨cur, e, h1, h4⟩ | ⟨o, h0, h1, h4⟩
          · exact .inr (.inl ⟨b, cur, e, by simp, h1, h2, .inl ⟨hpb, h3⟩, h4⟩)
          · exact .inr (.inr ⟨b, o, h0, by simp, h1, h4, h2, .inl ⟨hpb, h3⟩⟩)
      · simp only [AS.mem, hqr, if_false] at hq
        rcases h.liv q c' hq with ⟨h1, h2, h3⟩ | ⟨b, cur, e, h1, h2, h3, h4, h5⟩ | ⟨b, o, h0, h1, h2, h3, h4, h5⟩
        · exact .inl ⟨by simp [hqr, h1], h2, h3⟩
        case inr.inr => exact .inr (.inr ⟨b, o, h0, by simp [hqr, h1], h2, h3, h4, h5⟩)
        · refine .inr (.inl ⟨b, cur, e, by simp [hqr, h1], h2, h3, h4, ?_⟩)
          obtain ⟨f, cs⟩ := c'
          cases f
          · simp only [SimR, Bool.false_eq_true, if_false] at h5 ⊢
            exact SimL.on _ _ _ _ _ hle (refsL_eq (fun q hq => hne q (by simpa [ctx] using hq)) _ (SimL.refs _ _ _ h5)) h5
          · simp only [SimR, if_true] at h5 ⊢
            exact SimL.mono _ _ _ _ (hle.out _) h5
    tms := fun t => SimV.on _ _ _ _ _ hle (refsV_eq (fun q hq => hne q (by simpa [ctx] using hq)) _ (SimV.refs _ _ _ (h.tms t))) (h.tms t) }
def dropR (p : Nat → Bool) : Bool × List AV → Bool × List AV
  | (true, cs) => (true, cs)
  | (false, cs) => (false, dropL p cs)
def AS.drop (s : AS) (p : Nat → Bool) : AS := ⟨fun t => dropV p (s.tm t), fun q => if p q = true then none else (s.hp q).map (dropR p)⟩
theorem SimR.dropP {p : Nat → Bool} {c : Bool × List AV} {C D : Ctx} {ys : List Value} (h : SimR c C ys) (hl : C.LeOn (fun q => !(p q)) D) : SimR (dropR p c) D ys := by
  obtain ⟨f, cs⟩ := c
  cases f
  · simp only [SimR, dropR, Bool.false_eq_true, if_false] at h ⊢
    exact SimL.dropP p _ _ _ _ hl h
  · simp only [SimR, dropR, if_true] at h ⊢
    exact SimL.mono _ _ _ _ (hl.out _) h
/-- Regions are forgotten, and with them all that leads to them. -/
theorem Sim.dropP {w0 w : World} {mu : Nat → Option Nat} {N : Nat} {s : AS} {tm : Array Value} {phi : Nat → Option Nat} {ro : Nat → Prop} (h : Sim w0 mu N s tm w phi ro) (p : Nat → Bool) :
    Sim w0 mu N (s.drop p) tm w phi ro := by
  have hle : (ctx w0 w ro phi s).LeOn (fun q => !(p q)) (ctx w0 w ro phi (s.drop p)) := by
    refine ⟨fun b hb => ⟨hb, rfl⟩, Nat.le_refl _, id, fun _ q hq hl => ⟨?_, rfl⟩, fun _ q b cur e _ _ _ hb => ⟨cur, hb, Nat.le_refl _⟩⟩
    have hqr : ¬ p q = true := by simpa using hq
    simpa [ctx, AS.drop, hqr] using hl
  have hlive : ∀ q, ((s.drop p).hp q).isSome = true → ¬ p q = true ∧ (s.hp q).isSome = true := by
    intro q hq
    by_cases hqr : p q = true
    · simp [AS.drop, hqr] at hq
    · exact ⟨hqr, by simpa [AS.drop, hqr] using hq⟩
  exact { h with
    inj := fun q q' b hq hq' h1 h2 => h.inj q q' b (hlive q hq).2 (hlive q' hq').2 h1 h2
    liv := fun q c hq => by
      have hqr : ¬ p q = true := (hlive q (by simp [hq])).1
      have hq1 : (if p q = true then none else (s.hp q).map (dropR p)) = some c := hq
      rw [if_neg hqr, Option.map_eq_some_iff] at hq1
      obtain ⟨c0, hq0, rfl⟩ := hq1
      rcases h.liv q c0 hq0 with ⟨h1, h2, h3⟩ | ⟨b, cur, e, h1, h2, h3, h4, h5⟩ | ⟨b, o, rfl, h1, h2, h3, h4, h5⟩
      · exact .inl ⟨h1, (by obtain ⟨f, cs⟩ := c0; cases f <;> simp_all [dropR, dropL]), h3⟩
      · exact .inr (.inl ⟨b, cur, e, h1, h2, h3, h4, h5.dropP hle⟩)
      · exact .inr (.inr ⟨b, o, rfl, h1, h2, h3, h4, h5⟩)
    tms := fun t => SimV.dropP p _ _ _ _ hle (h.tms t) }
end Go.Am
namespace Go.Am
variable [Go.Am.CodeBlk]
inductive Opd where
  | t (n : Nat)
  | c (v : Value)
def AS.ev (s : AS) : Opd → AV
  | .t n => s.tm n
  | .c v => .v v
/-- Operations that make one value out of others alone: a field; a struct or an array; an element of an array; a byte of a string; a part of a string; another kind of integer; equality of structs of integers; the lesser or the greater one. -/
inductive PG where
  | fld (off : Nat) (k : Option Nat)
  | bld (zero : List Value) (places : List (Nat × Nat))
  | aix (n z : Nat) (k : Option Nat)
  | six
  | scut (lo hi : Bool)
  | cvt (k : IntKind)
  | aeq (ne : Bool) (offs : List Nat)
  | mm (mx : Bool)
  | inil (ne : Bool)
  | cpl
  | cut4 (z : Nat)
inductive AOp where
  | mov (x : Opd)
  | nils (z : Nat)
  | pick (c a b : Opd)
  | not (x : Opd)
  | neg (x : Opd)
  | bin (op : BinOp) (x y : Opd)
  | beq (ne : Bool) (x y : Opd)
  | len (x : Opd)
  | slen (x : Opd)
  | capn (x : Opd)
  | isnil (ne : Bool) (x : Opd)
  | idx (z : Nat) (x i : Opd)
  | arr (z n : Nat) (x i : Opd)
  | ld (k : Option Nat) (x : Opd)
  | st (k : Nat) (x y : Opd)
  | mk (z bs : Nat) (zero : List Value) (l c : Opd)
  | cut (z : Nat) (x : Opd) (lo hi : Option Opd)
  | cut3 (z : Nat) (x hi mx : Opd)
  | app (z bs : Nat) (x y : Opd)
  | appz (z bs : Nat) (zero : List Value) (x y : Opd)
  | call (f : FuncId) (args : List Opd)
  | ext (x : Opd) (i : Nat)
  | alloc (zero : List Value)
  | box (k : Nat) (x : Opd)
  | bsl (z n : Nat) (zero : List Value) (parts : List (Nat × Opd))
  | fa (off : Nat) (x : Opd)
  | pu (g : PG) (args : List Opd)
  | cpy (z : Nat) (x y : Opd)
  | bts (x : Opd)
  | acut (z n : Nat) (x : Opd) (lo hi : Option Opd)
  | callv (f : Opd) (args : List Opd)
  | mkf (f : FuncId) (k : Nat) (args : List Opd)
  | rng (x : Opd)
  | nxs (x : Opd)
  | nchk (x : Opd)
  | mmk
  | mget (k : IntKind) (z : Value) (ok : Bool) (x i : Opd)
  | mput (k : IntKind) (x i y : Opd)
  | mgetk (kt : TypeId) (z : Value) (ok : Bool) (x i : Opd)
  | mputk (kt : TypeId) (x i y : Opd)
  | xcall (f : FuncId) (args : List Opd)
  | mrg (x : Opd)
  | mnx (x : Opd)
  | ment (x : Opd)
  | mdel (kt : TypeId) (x i : Opd)
  | mnil (ne : Bool) (x : Opd)
  | dead
structure AOper where
  d : Option Nat
  op : AOp
  g : Option (Nat × Bool)
/-- Operations of a region that draws its order: one that may be taken first; two of which each may come first. -/
inductive ATree where
  | done
  | take (o : AOper) (t : ATree)
  | two (o : AOper) (t : ATree) (p : AOper) (u : ATree)
  | own (o : AOper) (t : ATree)
  | one (o : AOper) (t : ATree)
  | alt (t u : ATree)
  | pre (o : AOper) (rs : List Nat) (t : ATree)
  | top
inductive ACode where
  | skip
  | ops (l : List AOper)
  | tree (t : ATree)
  | seq (a b : ACode)
  | cond (c : Opd) (a b : ACode)
  | block (id : Nat) (a : ACode)
  | loop (a : ACode)
  | exit (id : Nat)
  | ret
  | dead
  | scope (a : ACode)
  | label (l : Nat)
  | goto (l : Nat)
def opd : Operand → Opd
  | .tmp t => .t t
  | .const v => .c v
  | .global g => .c (.pointer (some ⟨g, 0, none⟩))
  | .func f => .c (.func (.func f) #[] #[])
/-- How many cells a variable of a type has: none for one that is no struct and no array. -/
def shapeT (P : Program) (t : TypeId) : Option (Option Nat) :=
  match P.underlying t, P.info? t with
  | some (.struct _), some i | some (.array _ _), some i => some (some i.size)
  | some _, some _ => some none
  | _, _ => none
def copCall (P : Program) (c : Call) : Option AOp :=
  match c.callee with
  | .builtin .len =>
    match c.args.toList, c.argTypes.toList with
    | [x], [t] =>
      match P.underlying t with
      | some (.slice _) => some (.len (opd x))
      | some .string => some (.slen (opd x))
      | _ => none
    | _, _ => none
  | .builtin .append =>
    match c.args.toList, c.argTypes.toList with
    | [x, y], [t, u] =>
      match P.underlying t with
      | some (.slice e) => (P.info? e).bind fun i => i.zero.bind fun z => if z.cells.size = i.size ∧ 0 < i.size ∧ t = u then some (.app i.size i.bytes (opd x) (opd y)) else
        if z.cells.size = i.size ∧ 0 < i.size then (match P.underlying u with
          | some (.int _) => some (.appz i.size i.bytes z.cells.toList (opd x) (opd y))
          | _ => none) else none
      | _ => none
    | _, _ => none
  | .builtin .copy =>
    match c.args.toList, c.argTypes.toList with
    | [x, y], [t, u] =>
      match P.underlying t with
      | some (.slice e) => (P.info? e).bind fun i => if t = u ∧ 0 < i.size then some (.cpy i.size (opd x) (opd y)) else none
      | _ => none
    | _, _ => none
  | .builtin .max => match c.args.toList with
    | [x, y] => some (.pu (.mm true) [opd x, opd y])
    | _ => none
  | .builtin .min => match c.args.toList with
    | [x, y] => some (.pu (.mm false) [opd x, opd y])
    | _ => none
  | .builtin .cap => match c.args.toList, c.argTypes.toList with
    | [x], [t] =>
      match P.underlying t with
      | some (.slice _) => some (.capn (opd x))
      | _ => none
    | _, _ => none
  | .value (.func f) =>
    match P.funcs[f]? with
    | some fn => if fn.name == "runtime.NumGoroutine" || fn.body.isNone then (if fn.name == "runtime.NumGoroutine" then none else some (.xcall f (c.args.toList.map opd))) else some (.call f (c.args.toList.map opd))
    | none => none
  | .value x => some (.callv (opd x) (c.args.toList.map opd))
  | .builtin .delete => match c.args.toList, c.argTypes.toList with
    | [x, i], t :: _ =>
      match P.underlying t with
      | some (.map kt _) => some (.mdel kt (opd x) (opd i))
      | _ => none
    | _, _ => none
  | _ => none
/-- The offsets of a struct's fields, all integers. -/
def intFields (P : Program) : List Field → Option (List Nat)
  | [] => some []
  | f :: l => match P.underlying f.type with
    | some (.int _) => if f.name = "_" then none else (intFields P l).map (f.offset :: ·)
    | _ => none
def copOp0 (P : Program) (o : Oper) : Option AOp :=
  match o.op with
  | .move x | .assign x =>
    match x, P.underlying o.type with
    | .const (.slice none 0 0), some (.slice e) => (P.info? e).map fun i => .nils i.size
    | x, _ => some (.mov (opd x))
  | .pick c a b => some (.pick (opd c) (opd a) (opd b))
  | .unOp .not _ x => some (.not (opd x))
  | .unOp .neg _ x => some (.neg (opd x))
  | .unOp .xor _ x => some (.pu .cpl [opd x])
  | .binOp op t x y _ =>
    match P.underlying t with
    | some (.int _) => some (.bin op (opd x) (opd y))
    | some .string => some (.bin op (opd x) (opd y))
    | some (.slice _) => match y with
      | .const (.slice none 0 0) => if op = .eql then some (.isnil false (opd x)) else if op = .neq then some (.isnil true (opd x)) else none
      | _ => none
    | some (.struct fs) => if P.stoodInHeld t = false ∧ P.eqGuardType P.depth t = false then
        (intFields P fs.toList).bind fun offs => if op = .eql then some (.pu (.aeq false offs) [opd x, opd y]) else if op = .neq then some (.pu (.aeq true offs) [opd x, opd y]) else none
      else none
    | some (.map _ _) => match y with
      | .const (.map none) => if op = .eql then some (.mnil false (opd x)) else if op = .neq then some (.mnil true (opd x)) else none
      | _ => none
    | some .bool => if op = .eql then some (.beq false (opd x) (opd y)) else if op = .neq then some (.beq true (opd x) (opd y)) else none
    | some (.interface _) => match y with
      | .const .nilIface => if op = .eql then some (.pu (.inil false) [opd x]) else if op = .neq then some (.pu (.inil true) [opd x]) else none
      | _ => none
    | _ => none
  | .indexAddr t x i =>
    match P.underlying t with
    | some (.slice e) => (P.info? e).map fun inf => .idx inf.size (opd x) (opd i)
    | some (.array n e) => (P.info? e).map fun inf => .arr inf.size n (opd x) (opd i)
    | _ => none
  | .load t x => (shapeT P t).map fun k => .ld k (opd x)
  | .store t x y => if o.dst.isSome then none else (shapeT P t).bind fun k => (P.info? t).bind fun i => match k with
    | none => if i.size = 1 then some (.st 1 (opd x) (opd y)) else none
    | some k => some (.st k (opd x) (opd y))
  | .makeSlice t l c =>
    match P.underlying t with
    | some (.slice e) => (P.info? e).bind fun i => i.zero.bind fun z => if z.cells.size = i.size ∧ 0 < i.size then some (.mk i.size i.bytes z.cells.toList (opd l) (opd c)) else none
    | _ => none
  | .slice t x lo hi none =>
    match P.underlying t with
    | some (.slice e) => (P.info? e).map fun i => .cut i.size (opd x) (lo.map opd) (hi.map opd)
    | some (.array n e) => (P.info? e).map fun i => .acut i.size n (opd x) (lo.map opd) (hi.map opd)
    | some .string => some (.pu (.scut lo.isSome hi.isSome) (opd x :: (lo.toList.map opd ++ hi.toList.map opd)))
    | _ => none
  | .slice t x none (some hi) (some mx) =>
    match P.underlying t with
    | some (.slice e) => (P.info? e).map fun i => .cut3 i.size (opd x) (opd hi) (opd mx)
    | _ => none
  | .slice t x (some lo) (some hi) (some mx) =>
    match P.underlying t with
    | some (.slice e) => (P.info? e).map fun i => .pu (.cut4 i.size) [opd x, opd lo, opd hi, opd mx]
    | _ => none
  | .call c => copCall P c
  | .extract x i => some (.ext (opd x) i)
  | .alloc t => (P.info? t).bind fun i => i.zero.map fun z => .alloc z.cells.toList
  | .box t x => (shapeT P t).bind fun k => (P.info? t).bind fun i => match k with
    | none => if i.size = 1 then some (.box 1 (opd x)) else none
    | some k => some (.box k (opd x))
  | .buildSlice t n parts =>
    match P.underlying t with
    | some (.slice e) => (P.info? e).bind fun i => i.zero.bind fun z =>
      if z.cells.size = i.size ∧ 0 < i.size ∧ n * i.size ≤ 16777216 then some (.bsl i.size n z.cells.toList (parts.toList.map fun p => (p.1, opd p.2))) else none
    | _ => none
  | .fieldAddr t x f =>
    match P.underlying t with
    | some (.struct fields) => (fields[f]?).bind fun fd => (P.info? fd.type).bind fun i => if i.size = 0 then none else some (.fa fd.offset (opd x))
    | _ => none
  | .field t x f =>
    match P.underlying t with
    | some (.struct fields) => (fields[f]?).bind fun fd => (shapeT P fd.type).map fun k => .pu (.fld fd.offset k) [opd x]
    | _ => none
  | .build t parts =>
    (P.info? t).bind fun i => i.zero.bind fun z =>
    match P.underlying t with
    | some (.struct fields) => if fields.toList.all (fun f => (P.info? f.type).isSome) = true then (parts.toList.mapM fun p => (fields[p.1]?).bind fun f => (P.info? f.type).map fun inf => (f.offset, inf.size)).map fun pl => .pu (.bld z.cells.toList pl) (parts.toList.map fun p => opd p.2) else none
    | some (.array _ e) => (P.info? e).map fun inf => .pu (.bld z.cells.toList (parts.toList.map fun p => (p.1 * inf.size, inf.size))) (parts.toList.map fun p => opd p.2)
    | _ => none
  | .index t x i =>
    match P.underlying t with
    | some (.array n e) => (P.info? e).bind fun inf => (shapeT P e).map fun k => .pu (.aix n inf.size k) [opd x, opd i]
    | some .string => some (.pu .six [opd x, opd i])
    | _ => none
  | .convert u t x =>
    match P.underlying u, P.underlying t with
    | some (.int _), some (.int k) => some (.pu (.cvt k) [opd x])
    | some (.slice e), some .string => match P.underlying e with
      | some (.int .u8) => some (.bts (opd x))
      | _ => none
    | _, _ => none
  | .makeFunc (.func f) first captured => some (.mkf f first.size ((first ++ captured).toList.map opd))
  | .range t x =>
    match P.underlying t with
    | some .string => some (.rng (opd x))
    | some (.map _ _) => some (.mrg (opd x))
    | _ => none
  | .next x true => some (.nxs (opd x))
  | .next x false => some (.mnx (opd x))
  | .entry x => some (.ment (opd x))
  | .nilCheck x => some (.nchk (opd x))
  | .makeMap _ none => some .mmk
  | .lookup t x i ok =>
    match P.underlying t with
    | some (.map kt et) => match P.underlying kt with
      | some (.int k) => (P.info? et).bind fun inf => inf.zero.map fun z => .mget k z ok (opd x) (opd i)
      | _ => (P.info? et).bind fun inf => inf.zero.map fun z => .mgetk kt z ok (opd x) (opd i)
    | _ => none
  | .mapUpdate t x i y | .insert t x i y => if o.dst.isSome then none else
    match P.underlying t with
    | some (.map kt _) => match P.underlying kt with
      | some (.int k) => some (.mput k (opd x) (opd i) (opd y))
      | _ => some (.mputk kt (opd x) (opd i) (opd y))
    | _ => none
  | _ => none
/-- What isn't known is held to be dead: no proof goes through it. -/
def copOp (P : Program) (o : Oper) : Option AOp := some ((copOp0 P o).getD .dead)
def dstOk (N : Nat) : Option Nat → Bool
  | some d => decide (d < N)
  | none => true
def cop (P : Program) (N : Nat) (ops : Array Oper) (o : Oper) : Option AOper :=
  (copOp P o).bind fun op =>
    if dstOk N o.dst then
      match o.guard with
      | none => some ⟨o.dst, op, none⟩
      | some (j, w) => ((ops[j]?).bind (·.dst)).bind fun t => if t < N then some ⟨o.dst, op, some (t, w)⟩ else none
    else none
/-- What one operation on exact values gives. -/
def pbin : BinOp → Value → Value → Option Value
  | .shl, .int k a, .int _ b => if b < 0 then none else some (.int k (k.wrap (a * 2 ^ (min b.toNat k.bits))))
  | .shr, .int k a, .int _ b => if b < 0 then none else some (.int k (a.fdiv (2 ^ (min b.toNat k.bits))))
  | op, .int k a, .int k' b =>
    if k = k' then
      match op with
      | .add => some (.int k (k.wrap (a + b)))
      | .sub => some (.int k (k.wrap (a - b)))
      | .mul => some (.int k (k.wrap (a * b)))
      | .quo => if b = 0 then none else some (.int k (k.wrap (a.tdiv b)))
      | .rem => if b = 0 then none else some (.int k (a.tmod b))
      | .and => some (.int k (k.wrap (BitVec.ofInt k.bits a &&& BitVec.ofInt k.bits b).toNat))
      | .or => some (.int k (k.wrap (BitVec.ofInt k.bits a ||| BitVec.ofInt k.bits b).toNat))
      | .xor => some (.int k (k.wrap (BitVec.ofInt k.bits a ^^^ BitVec.ofInt k.bits b).toNat))
      | .andNot => some (.int k (k.wrap (BitVec.ofInt k.bits a &&& ~~~(BitVec.ofInt k.bits b)).toNat))
      | .eql => some (.bool (a == b))
      | .neq => some (.bool (a != b))
      | .lss => some (.bool (decide (a < b)))
      | .leq => some (.bool (decide (a ≤ b)))
      | .gtr => some (.bool (decide (a > b)))
      | .geq => some (.bool (decide (a ≥ b)))
      | _ => none
    else none
  | op, .string a, .string b =>
    match op with
    | .eql => some (.bool (a.toList == b.toList))
    | .neq => some (.bool !(a.toList == b.toList))
    | .add => if a.size + b.size ≤ 9223372036854775807 then some (.string (a ++ b)) else none
    | .lss => some (.bool (Op.bytesLess a.toList b.toList))
    | _ => none
  | _, _, _ => none
/-- May a value be stored into a cell of a region whose cells lead nowhere ('fl') or anywhere? -/
def cellOk (fl : Bool) : AV → Bool
  | .v x => x.oneCell'
  | .ro _ _ _ _ => true
  | .rp _ => true
  | .sl _ _ _ _ => !fl
  | .pt _ _ => !fl
  | .mp _ => !fl
  | .fn _ _ _ => !fl
  | .rmp _ _ _ => true
  | _ => false
/-- A slice's length and cells. -/
inductive Elems (hp : Nat → Option (Bool × List AV)) (z : Nat) : AV → Nat → List AV → Prop
  | ro (fr : Bool) (cs : List AV) (n : Nat) : Elems hp z (.ro fr z cs n) n cs
  | nil : Elems hp z (.v (.slice none 0 0)) 0 []
  | sl (r off n : Nat) (fl : Bool) (cs : List AV) (h : hp r = some (fl, cs)) (hl : off + n * z ≤ cs.length) : Elems hp z (.sl r z off n) n ((cs.drop off).take (n * z))
def afill (s : AS) (z : Nat) (fl : Bool) : List AV → List (Nat × Opd) → List AV → Prop
  | cs, [], out => out = cs
  | cs, (i, x) :: rest, out =>
    (z = 1 ∧ i < cs.length ∧ cellOk fl (s.ev x) = true ∧ afill s z fl (cs.set i (s.ev x)) rest out) ∨
    (∃ l, s.ev x = .agg l ∧ l.length = z ∧ i * z + z ≤ cs.length ∧ l.all (cellOk fl) = true ∧ afill s z fl (cs.take (i * z) ++ l ++ cs.drop (i * z + z)) rest out)
mutual
/-- The one value that an abstract one stands for. -/
def exV : AV → Option Value
  | .v x => some x
  | .agg l => (exL l).map fun vs => .agg vs.toArray
  | .any => none
  | .tup _ => none
  | .ro _ _ _ _ => none
  | .rp _ => none
  | .sl _ _ _ _ => none
  | .pt _ _ => none
  | .mp _ => none
  | .itr _ => none
  | .ob _ => none
  | .fn _ _ _ => none
  | .rmp _ _ _ => none
  | .fu _ _ _ => none
  | .mit _ _ _ _ _ => none
def exL : List AV → Option (List Value)
  | [] => some []
  | a :: l => (exV a).bind fun v => (exL l).map fun vs => v :: vs
end
mutual
theorem exV_sim : ∀ (a : AV) (C : Ctx) (x y : Value), exV a = some x → SimV a C y → y = x
  | .v z, _, x, y, e, h => by simp only [exV, Option.some.injEq] at e; simp only [SimV] at h; exact h.trans e
  | .agg l, C, x, y, e, h => by
    simp only [exV, Option.map_eq_some_iff] at e
    obtain ⟨vs, e1, rfl⟩ := e
    simp only [SimV] at h
    obtain ⟨a, rfl, h1, h2⟩ := h
    have := exL_sim l C vs a.toList e1 h2 (by simpa using h1)
    rw [← this]
  | .any, _, _, _, e, _ => by simp [exV] at e
  | .tup _, _, _, _, e, _ => by simp [exV] at e
  | .ro _ _ _ _, _, _, _, e, _ => by simp [exV] at e
  | .rp _, _, _, _, e, _ => by simp [exV] at e
  | .sl _ _ _ _, _, _, _, e, _ => by simp [exV] at e
  | .pt _ _, _, _, _, e, _ => by simp [exV] at e
  | .mp _, _, _, _, e, _ => by simp [exV] at e
  | .itr _, _, _, _, e, _ => by simp [exV] at e
  | .ob _, _, _, _, e, _ => by simp [exV] at e
  | .fn _ _ _, _, _, _, e, _ => by simp [exV] at e
  | .rmp _ _ _, _, _, _, e, _ => by simp [exV] at e
  | .fu _ _ _, _, _, _, e, _ => by simp [exV] at e
  | .mit _ _ _ _ _, _, _, _, e, _ => by simp [exV] at e
theorem exL_sim : ∀ (l : List AV) (C : Ctx) (vs ys : List Value), exL l = some vs → SimL l C ys → ys.length = l.length → ys = vs
  | [], _, vs, ys, e, _, hl => by
    simp only [exL, Option.some.injEq] at e
    rw [← e]
    exact List.eq_nil_of_length_eq_zero (by simpa using hl)
  | a :: l, C, vs, [], _, h, _ => by simp [SimL] at h
  | a :: l, C, vs, y :: ys, e, h, hl => by
    simp only [exL, Option.bind_eq_some_iff, Option.map_eq_some_iff] at e
    obtain ⟨v, e1, ws, e2, rfl⟩ := e
    simp only [SimL] at h
    rw [exV_sim a C v y e1 h.1, exL_sim l C ws ys e2 h.2 (by simpa using hl)]
end
mutual
theorem exV_mk : ∀ (a : AV) (C : Ctx) (x : Value), exV a = some x → SimV a C x
  | .v z, _, x, e => by simp only [exV, Option.some.injEq] at e; simp only [SimV]; exact e.symm
  | .agg l, C, x, e => by
    simp only [exV, Option.map_eq_some_iff] at e
    obtain ⟨vs, e1, rfl⟩ := e
    simp only [SimV]
    have h := exL_mk l C vs e1
    exact ⟨vs.toArray, rfl, by simpa using h.1, by simpa using h.2⟩
  | .any, _, _, e => by simp [exV] at e
  | .tup _, _, _, e => by simp [exV] at e
  | .ro _ _ _ _, _, _, e => by simp [exV] at e
  | .rp _, _, _, e => by simp [exV] at e
  | .sl _ _ _ _, _, _, e => by simp [exV] at e
  | .pt _ _, _, _, e => by simp [exV] at e
  | .mp _, _, _, e => by simp [exV] at e
  | .itr _, _, _, e => by simp [exV] at e
  | .ob _, _, _, e => by simp [exV] at e
  | .fn _ _ _, _, _, e => by simp [exV] at e
  | .rmp _ _ _, _, _, e => by simp [exV] at e
  | .fu _ _ _, _, _, e => by simp [exV] at e
  | .mit _ _ _ _ _, _, _, e => by simp [exV] at e
theorem exL_mk : ∀ (l : List AV) (C : Ctx) (vs : List Value), exL l = some vs → vs.length = l.length ∧ SimL l C vs
  | [], C, vs, e => by
    simp only [exL, Option.some.injEq] at e
    rw [← e]; simp [SimL]
  | a :: l, C, vs, e => by
    simp only [exL, Option.bind_eq_some_iff, Option.map_eq_some_iff] at e
    obtain ⟨v, e1, ws, e2, rfl⟩ := e
    have h := exL_mk l C ws e2
    simp only [SimL]
    exact ⟨by simpa using h.1, exV_mk a C v e1, h.2⟩
end
/-- A value is a map with these entries: one of the call's own, or one that nobody writes. -/
def MapAt (s : AS) (x : AV) (es : Array MapEntry) (clock : Nat) : Prop := (∃ r, x = .mp r ∧ s.hp r = some (true, [.ob (.map es clock)])) ∨ ∃ fr, x = .rmp fr es clock
/-- What a map's entry tells, or the zero where there is none. -/
def mres (ok : Bool) (v : Value) (b : Bool) : AV := if ok then .tup [.v v, .v (.bool b)] else .v v
/-- The call's arguments asx the callee may take them. -/
def Entry (w : World) (asx : List AV) (vs : List Value) : Prop :=
  SimL asx { heap := w.heap, ro := fun b => b < w.heap.size, base := w.heap.size, phi := fun _ => none, live := fun _ => false, loc := false } vs ∧ vs.length = asx.length
def fresh (w w' : World) : Ctx :=
  { heap := w'.heap, ro := fun b => w.heap.size ≤ b ∧ b < w'.heap.size, base := w.heap.size, phi := fun _ => none, live := fun _ => false, loc := false }
/-- THE CONTRACT OF A FUNCTION: called with values that read asx 'as', it returns one that reads asx 'res', all of new memory, and changes nothing that was there. -/
def Sp (P : Program) (f : FuncId) (asx : List AV) (res : AV) : Prop :=
  ∀ w vs, GoodW w → Entry w asx vs.toList → Calls P f vs w fun e w' => ∃ v, e = .returned v ∧ More w w' ∧ SimV res (fresh w w') v
def plainV : AV → Bool
  | .v _ => true
  | _ => false
/-- A slice that the callee may write comes first, then plain values: the region that it lies in is the callee's region 'pbase'. -/
def ctxM (w : World) (bo : Option Nat) : Ctx :=
  { heap := w.heap, ro := fun q => q < w.heap.size ∧ some q ≠ bo, base := w.heap.size, phi := fun r => if r = pbase then bo else none, live := fun r => r == pbase, loc := true }
def Cont (w : World) (bo : Option Nat) (cs : List AV) (size : Nat) (e : TypeId) : Prop :=
  match bo with
  | none => cs = []
  | some b => ∃ cur, w.heap[b]? = some (.cells cur e (0, 0)) ∧ cur.size = size ∧ SimL cs (fresh w w) cur.toList
/-- THE CONTRACT OF A FUNCTION THAT WRITES ITS FIRST ARGUMENT's CELLS: cs before, cs' behind. -/
def SpM (P : Program) (f : FuncId) (z n : Nat) (cs : List AV) (asx : List AV) (res : AV) (cs' : List AV) : Prop :=
  ∀ w vs v0 vs' bo size e, GoodW w → (∀ b, bo = some b → b ∉ goodB) → vs.toList = v0 :: vs' → SimV (.sl pbase z 0 n) (ctxM w bo) v0 → SimL asx (fresh w w) vs' → vs'.length = asx.length → Cont w bo cs size e →
    Calls P f vs w fun x w' => ∃ v, x = .returned v ∧ w'.os = w.os ∧ w'.tape = w.tape ∧ w'.output = w.output ∧ w.heap.size ≤ w'.heap.size ∧
      (∀ b, b < w.heap.size → some b ≠ bo → w'.heap[b]? = w.heap[b]?) ∧ Cont w' bo cs' size e ∧ SimV res (fresh w w') v
/-- What a value is to a callee: it may read all that is there. -/
def Lends (hp : Nat → Option (Bool × List AV)) (xs asx : List AV) : Prop :=
  ∀ w0 mu N tm w phi ro vs, Sim w0 mu N ⟨fun _ => .any, hp⟩ tm w phi ro → SimL xs (ctx w0 w ro phi ⟨fun _ => .any, hp⟩) vs → vs.length = xs.length → Entry w asx vs
/-- A slice expression's bound: what is told, or what stands where nothing is. -/
def Bnd (s : AS) (x : Option Opd) (l d : Nat) : Prop :=
  match x with
  | none => l = d
  | some y => ∃ k, s.ev y = .v (.int k (l : Nat))
/-- A value built of parts at their places: out of the cells 'cs'. -/
def pfill : List AV → List (Nat × Nat) → List AV → List AV → Prop
  | cs, [], [], out => out = cs
  | cs, (off, size) :: pl, x :: xs, out =>
    (size = 1 ∧ off < cs.length ∧ cellOk false x = true ∧ pfill (cs.set off x) pl xs out) ∨
    (∃ l, x = .agg l ∧ l.length = size ∧ off + size ≤ cs.length ∧ pfill (cs.take off ++ l ++ cs.drop (off + size)) pl xs out)
  | _, _, _, _ => False
def anInt : AV → Option (IntKind × Int)
  | .v (.int k n) => some (k, n)
  | _ => none
/-- Are the integers at the places the same? None: not all are told. -/
def intsEq (l m : List AV) : List Nat → Option Bool
  | [] => some true
  | o :: offs => (l[o]?).bind fun x => (m[o]?).bind fun y => (anInt x).bind fun a => (anInt y).bind fun b => if a.1 = b.1 then (intsEq l m offs).map fun e => decide (a.2 = b.2) && e else none
/-- What such an operation makes of its operands. -/
def PG.res : PG → List AV → AV → Prop
  | .fld off none, args, r => ∃ l, args = [.agg l] ∧ l[off]? = some r
  | .fld off (some k), args, r => ∃ l, args = [.agg l] ∧ off + k ≤ l.length ∧ r = .agg ((l.drop off).take k)
  | .bld zero pl, args, r => ∃ out, pfill (zero.map AV.v) pl args out ∧ r = .agg out
  | .aix n z none, args, r => ∃ l k j, args = [.agg l, .v (.int k j)] ∧ 0 ≤ j ∧ j < n ∧ l[j.toNat * z]? = some r
  | .aix n z (some k), args, r => ∃ l kk j, args = [.agg l, .v (.int kk j)] ∧ 0 ≤ j ∧ j < n ∧ j.toNat * z + k ≤ l.length ∧ r = .agg ((l.drop (j.toNat * z)).take k)
  | .six, args, r => ∃ b k j, args = [.v (.string b), .v (.int k j)] ∧ 0 ≤ j ∧ ∃ h : j.toNat < b.size, r = .v (.int .u8 (b[j.toNat]'h).toNat)
  | .scut lo hi, args, r => ∃ (b : ByteArray) (l h : Nat) (al ah : List AV), args = .v (.string b) :: (al ++ ah) ∧ l ≤ h ∧ h ≤ b.size ∧ (if lo then ∃ k, al = [.v (.int k l)] else al = [] ∧ l = 0) ∧ (if hi then ∃ k, ah = [.v (.int k h)] else ah = [] ∧ h = b.size) ∧
      r = .v (.string (b.extract l h))
  | .cvt k, args, r => ∃ k' n, args = [.v (.int k' n)] ∧ r = .v (.int k (k.wrap n))
  | .aeq ne offs, args, r => ∃ l m e, args = [.agg l, .agg m] ∧ intsEq l m offs = some e ∧ r = .v (.bool (ne ^^ e))
  | .cpl, args, r => ∃ k n, args = [.v (.int k n)] ∧ r = .v (.int k (k.wrap (BitVec.ofInt k.bits (if k.signed then -1 else k.max) ^^^ BitVec.ofInt k.bits n).toNat))
  | .inil ne, args, r => ∃ y, args = [.v y] ∧ ((y = .nilIface ∧ r = .v (.bool !ne)) ∨ ((∃ t p, y = .iface t p) ∧ r = .v (.bool ne)))
  | .cut4 z, args, r => ∃ (a : Option Addr) (n c l h : Nat) (k k' k'' : IntKind), args = [.v (.slice a n c), .v (.int k (l : Nat)), .v (.int k' (h : Nat)), .v (.int k'' (h : Nat))] ∧ l ≤ h ∧ h ≤ c ∧ r = .v (.slice (if h = l then a else a.map (·.add (l * z))) (h - l) (h - l))
  | .mm mx, args, r => ∃ k a k' b, args = [.v (.int k a), .v (.int k' b)] ∧ r = .v (.int k (if mx then (if b > a then b else a) else (if b < a then b else a)))
def Callable (P : Program) (f : FuncId) : Prop := ∃ fn, P.funcs[f]? = some fn ∧ (fn.name == "runtime.NumGoroutine") = false ∧ fn.body.isNone = false
/-- The bytes of a string. -/
def byteVs (l : List UInt8) : List AV := l.map fun b => .v (.int .u8 b.toNat)
/-- An exact value that is a slice of bytes, in a block that nobody writes. -/
def Bys (v : Value) (L : List UInt8) : Prop :=
  (L = [] ∧ ∃ a c, v = .slice a 0 c) ∨ ∃ b o cap cur, v = .slice (some ⟨b, o, none⟩) L.length cap ∧ (b, cur) ∈ CodeBlk.blks ∧ L.length ≤ cap ∧ ∀ C : Ctx, SimL (byteVs L) C (cur.toList.drop o)
mutual
/-- Regions renamed. -/
def renV (f : Nat → Nat) : AV → AV
  | .sl r z off n => .sl (f r) z off n
  | .pt r off => .pt (f r) off
  | .agg l => .agg (renL f l)
  | .tup l => .tup (renL f l)
  | .any => .any
  | .v x => .v x
  | .ro fr z cs n => .ro fr z cs n
  | .rp cs => .rp cs
  | .mp r => .mp (f r)
  | .itr r => .itr (f r)
  | .ob o => .ob o
  | .fn g l k => .fn g (renL f l) k
  | .rmp fr es clock => .rmp fr es clock
  | .fu z cs n => .fu z cs n
  | .mit r m bm es ck => .mit (f r) (m.map f) bm es ck
def renL (f : Nat → Nat) : List AV → List AV
  | [] => []
  | a :: l => renV f a :: renL f l
end
def renR (f : Nat → Nat) (c : Bool × List AV) : Bool × List AV := (c.1, renL f c.2)
theorem renL_map (f : Nat → Nat) : ∀ l : List AV, renL f l = l.map (renV f)
  | [] => by simp [renL]
  | a :: l => by simp [renL, renL_map f l]
mutual
/-- Values that lead to regions alone (and, where 'ro' says so, to plain cells that nobody writes). -/
def ownV (ro : Bool) : AV → Bool
  | .sl _ _ _ _ => true
  | .pt _ _ => true
  | .agg l => ownL ro l
  | .tup l => ownL ro l
  | .any => true
  | .v _ => true
  | .ro fr _ cs _ => ro && !fr && cs.all plainV
  | .rp _ => false
  | .mp _ => true
  | .itr _ => true
  | .ob _ => true
  | .fn _ l _ => ownL ro l
  | .rmp fr _ _ => ro && !fr
  | .fu _ _ _ => false
  | .mit _ _ _ _ _ => false
def ownL (ro : Bool) : List AV → Bool
  | [] => true
  | a :: l => ownV ro a && ownL ro l
end
/-- Regions, and what they hold. -/
abbrev Hp := Nat → Option (Bool × List AV)
def Regs (C : Ctx) (h : Hp) : Prop := ∀ r c, h r = some c → (C.phi r = none ∧ c.2 = []) ∨ (∃ b cur e, C.phi r = some b ∧ C.heap[b]? = some (.cells cur e (0, 0)) ∧ SimR c C cur.toList) ∨ ∃ b o, c = (true, [.ob o]) ∧ C.phi r = some b ∧ C.heap[b]? = some o ∧ isCells o = false
def Inj (h : Hp) (phi : Nat → Option Nat) : Prop := ∀ r r' b, (h r).isSome = true → (h r').isSome = true → phi r = some b → phi r' = some b → r = r'
/-- What a callee sees. -/
def ctxE (w : World) (phi : Nat → Option Nat) (h : Hp) : Ctx :=
  { heap := w.heap, ro := fun q => q < w.heap.size ∧ ∀ r, (h r).isSome = true → phi r ≠ some q, base := w.heap.size, phi, live := fun r => (h r).isSome, loc := true }
/-- What it leaves. -/
def ctxX (w w' : World) (phi : Nat → Option Nat) (h : Hp) : Ctx :=
  { heap := w'.heap, ro := fun _ => False, base := w.heap.size, phi, live := fun r => (h r).isSome, loc := true }
/-- THE CONTRACT OF A FUNCTION THAT IS LENT REGIONS (their names are at least pbase) AND HANDS OUT NEW ONES: hin before, hout behind. -/
def SpH (P : Program) (f : FuncId) (asx : List AV) (hin : Hp) (res : AV) (hout : Hp) : Prop :=
  ∀ w vs phi, GoodW w → (∀ r b, (hin r).isSome = true → phi r = some b → b ∉ goodB) → Inj hin phi → Regs (ctxE w phi hin) hin → SimL asx (ctxE w phi hin) vs.toList → vs.size = asx.length →
    Calls P f vs w fun x w' => ∃ v phi', x = .returned v ∧ w'.os = w.os ∧ w'.tape = w.tape ∧ w'.output = w.output ∧ w.heap.size ≤ w'.heap.size ∧
      (∀ r, (hin r).isSome = true → phi' r = phi r) ∧ (∀ b, b < w.heap.size → (∀ r, (hin r).isSome = true → phi r ≠ some b) → w'.heap[b]? = w.heap[b]?) ∧
      (∀ (b : Nat) (cur : Array Value) (e : TypeId) (f : Nat × Nat), w.heap[b]? = some (.cells cur e f) → ∃ cur' : Array Value, w'.heap[b]? = some (.cells cur' e f) ∧ cur'.size = cur.size) ∧
      Inj hout phi' ∧ (∀ r b, (hout r).isSome = true → hin r = none → phi' r = some b → w.heap.size ≤ b) ∧ Regs (ctxX w w' phi' hout) hout ∧ SimV res (ctxX w w' phi' hout) v
/-- THE SAME WITH AN OPEN END: what comes is told by an i, of which 'ok' tells. -/
def SpX (P : Program) (f : FuncId) (asx : List AV) (hin : Hp) {ι : Type} (ok : ι → Prop) (res : ι → AV) (hout : ι → Hp) : Prop :=
  ∀ w vs phi, GoodW w → (∀ r b, (hin r).isSome = true → phi r = some b → b ∉ goodB) → Inj hin phi → Regs (ctxE w phi hin) hin → SimL asx (ctxE w phi hin) vs.toList → vs.size = asx.length →
    Calls P f vs w fun x w' => ∃ i, ok i ∧ ∃ v phi', x = .returned v ∧ w'.os = w.os ∧ w'.tape = w.tape ∧ w'.output = w.output ∧ w.heap.size ≤ w'.heap.size ∧
      (∀ r, (hin r).isSome = true → phi' r = phi r) ∧ (∀ b, b < w.heap.size → (∀ r, (hin r).isSome = true → phi r ≠ some b) → w'.heap[b]? = w.heap[b]?) ∧
      (∀ (b : Nat) (cur : Array Value) (e : TypeId) (f : Nat × Nat), w.heap[b]? = some (.cells cur e f) → ∃ cur' : Array Value, w'.heap[b]? = some (.cells cur' e f) ∧ cur'.size = cur.size) ∧
      Inj (hout i) phi' ∧ (∀ r b, (hout i r).isSome = true → hin r = none → phi' r = some b → w.heap.size ≤ b) ∧ Regs (ctxX w w' phi' (hout i)) (hout i) ∧ SimV (res i) (ctxX w w' phi' (hout i)) v
theorem SpH.toX {P : Program} {f : FuncId} {asx : List AV} {hin hout : Hp} {res : AV} (h : SpH P f asx hin res hout) : SpX P f asx hin (ι := Unit) (fun _ => True) (fun _ => res) (fun _ => hout) :=
  fun w vs phi g1 g2 h1 h2 h3 h4 => (h w vs phi g1 g2 h1 h2 h3 h4).mono fun _ _ hp => ⟨(), trivial, hp⟩
/-- What the caller's values are to a callee that is lent regions: its names are told by f. -/
def LendsH (hp : Hp) (f : Nat → Nat) (hin : Hp) (xs asx : List AV) : Prop :=
  ∀ w0 mu N tm w phi ro vs, Sim w0 mu N ⟨fun _ => .any, hp⟩ tm w phi ro → SimL xs (ctx w0 w ro phi ⟨fun _ => .any, hp⟩) vs → vs.length = xs.length → SimL asx (ctxE w (fun r => phi (f r)) hin) vs ∧ vs.length = asx.length
/-- Names, the state's and the callee's: what the rule at a call asks. -/
structure Lent (s : AS) (f : Nat → Nat) (hin hout : Hp) (hp' : Hp) (res : AV) : Prop where
  has : ∀ r c, hin r = some c → s.hp (f r) = some (renR f c)
  inj : ∀ r r', (hout r).isSome = true → (hout r').isSome = true → f r = f r' → r = r'
  stay : ∀ r, (hin r).isSome = true → (hout r).isSome = true
  fresh : ∀ r, (hout r).isSome = true → hin r = none → s.hp (f r) = none ∧ f r < pbase
  new : ∀ r c, hout r = some c → hp' (f r) = some (renR f c)
  old : ∀ q, (∀ r, (hout r).isSome = true → f r ≠ q) → hp' q = s.hp q
  ownI : ∀ r c, hin r = some c → ownL true c.2 = true ∧ refsL (fun r => (hin r).isSome) c.2 = true
  ownO : ∀ r c, hout r = some c → ownL false c.2 = true
  ownR : ownV false res = true
/-- Some of the regions that a call is lent (their names are at least gvb) are given to it for good: what it hands out may lie in their blocks. -/
def SpG (P : Program) (f : FuncId) (asx : List AV) (hin : Hp) (res : AV) (hout : Hp) : Prop :=
  ∀ w vs phi, GoodW w → (∀ r b, (hin r).isSome = true → phi r = some b → b ∉ goodB) → Inj hin phi → Regs (ctxE w phi hin) hin → SimL asx (ctxE w phi hin) vs.toList → vs.size = asx.length →
    Calls P f vs w fun x w' => ∃ v phi', x = .returned v ∧ w'.os = w.os ∧ w'.tape = w.tape ∧ w'.output = w.output ∧ w.heap.size ≤ w'.heap.size ∧
      (∀ r, (hin r).isSome = true → r < gvb → phi' r = phi r) ∧ (∀ b, b < w.heap.size → (∀ r, (hin r).isSome = true → phi r ≠ some b) → w'.heap[b]? = w.heap[b]?) ∧
      (∀ (b : Nat) (cur : Array Value) (e : TypeId) (f : Nat × Nat), w.heap[b]? = some (.cells cur e f) → ∃ cur' : Array Value, w'.heap[b]? = some (.cells cur' e f) ∧ cur'.size = cur.size) ∧
      Inj hout phi' ∧ (∀ r b, (hout r).isSome = true → hin r = none → phi' r = some b → w.heap.size ≤ b ∨ ∃ r', gvb ≤ r' ∧ (hin r').isSome = true ∧ phi r' = some b) ∧ Regs (ctxX w w' phi' hout) hout ∧ SimV res (ctxX w w' phi' hout) v
/-- Names at such a call: what p tells is dropped. -/
structure Given (s : AS) (p : Nat → Bool) (g : Nat → Nat) (hin hout hp' : Hp) (res : AV) : Prop where
  has : ∀ r c, hin r = some c → s.hp (g r) = some (renR g c)
  gone : ∀ r, (hin r).isSome = true → (p (g r) = true ↔ gvb ≤ r)
  own : ∀ r, (hin r).isSome = true → gvb ≤ r → g r < pbase ∨ gvb ≤ g r
  injI : ∀ r r', (hin r).isSome = true → (hin r').isSome = true → g r = g r' → r = r'
  inj : ∀ r r', (hout r).isSome = true → (hout r').isSome = true → g r = g r' → r = r'
  stay : ∀ r, (hin r).isSome = true → r < gvb → (hout r).isSome = true
  lt : ∀ r, (hout r).isSome = true → r < gvb
  fresh : ∀ r, (hout r).isSome = true → hin r = none → (s.drop p).hp (g r) = none ∧ g r < pbase
  new : ∀ r c, hout r = some c → hp' (g r) = some (renR g c)
  old : ∀ q, (∀ r, (hout r).isSome = true → g r ≠ q) → hp' q = (s.drop p).hp q
  ownI : ∀ r c, hin r = some c → ownL true c.2 = true ∧ refsL (fun r => (hin r).isSome) c.2 = true
  ownO : ∀ r c, hout r = some c → ownL false c.2 = true
  ownR : ownV false res = true
/-- A variable with one value, new. -/
def boxH (v : Value) : Hp := fun q => if q = 8000000 then some (true, [.v v]) else none
/-- THE CONTRACT OF A FUNCTION WHOSE RESULT MAY LEAD TO WHAT ITS ARGUMENTS LEAD TO: it reads asx 'res' wherever they read asx 'as'; nothing that was there has changed. -/
def SpR (P : Program) (f : FuncId) (asx : List AV) (res : AV) : Prop :=
  ∀ w vs (C : Ctx), GoodW w → C.heap = w.heap → SimL asx C vs.toList → vs.size = asx.length → Calls P f vs w fun e w' => ∃ v, e = .returned v ∧ More w w' ∧ SimV res { C with heap := w'.heap } v
/-- A call of a function that is told. -/
def acallA (P : Program) (own : Bool) (f : FuncId) (xs : List AV) (d : Option Nat) (s : AS) (K : AS → Prop) : Prop :=
  (∃ asx res, Sp P f asx res ∧ Lends s.hp xs asx ∧
    (K (s.put d res) ∨ (own = true ∧ ∃ r z cs n, d = some r ∧ cs.all plainV = true ∧
      ((res = .ro true z cs n ∧ K (((s.kill r).mem r (true, cs)).put d (.sl r z 0 n))) ∨
       (∃ rest, res = .tup (.ro true z cs n :: rest) ∧ rest.all plainV = true ∧ K (((s.kill r).mem r (true, cs)).put d (.tup (.sl r z 0 n :: rest)))))))) ∨
  (own = true ∧ ∃ r z n cs asx res cs', xs = .sl r z 0 n :: asx ∧ asx.all plainV = true ∧ s.hp r = some (true, cs) ∧ cs.all plainV = true ∧ cs'.all plainV = true ∧ plainV res = true ∧ SpM P f z n cs asx res cs' ∧
    K ((s.mem r (true, cs')).put d res)) ∨
  (own = true ∧ ∃ (asx : List AV) (hin : Hp) (ι : Type) (ok : ι → Prop) (res : ι → AV) (hout : ι → Hp) (g : Nat → Nat) (hp' : ι → Hp), SpX P f asx hin ok res hout ∧ LendsH s.hp g hin xs asx ∧ (∃ i, ok i) ∧ ∀ i, ok i → Lent s g hin (hout i) (hp' i) (res i) ∧ K (AS.put ⟨s.tm, hp' i⟩ d (renV g (res i)))) ∨
  (own = true ∧ ∃ (asx : List AV) (hin : Hp) (res : AV) (hout : Hp) (g : Nat → Nat) (p : Nat → Bool) (hp' : Hp), SpG P f asx hin res hout ∧ LendsH s.hp g hin xs asx ∧ Given s p g hin hout hp' res ∧ K (AS.put ⟨(s.drop p).tm, hp'⟩ d (renV g res))) ∨
  (own = true ∧ ∃ (r : Nat) (x : AV) (g : FuncId), xs = [x] ∧ d = some r ∧ cellOk true x = true ∧ (∀ v : Value, v.oneCell' = true → SpH P f [.v v] (fun _ => none) (.fn g [.pt 8000000 0] 0) (boxH v)) ∧ K (((s.kill r).mem r (true, [x])).put d (.fn g [.pt r 0] 0))) ∨
  (∃ res, SpR P f xs res ∧ K (s.put d res))
abbrev acall (P : Program) (own : Bool) (f : FuncId) (args : List Opd) (d : Option Nat) (s : AS) (K : AS → Prop) : Prop := acallA P own f (args.map s.ev) d s K
def aexec (P : Program) (own : Bool) : AOp → Option Nat → AS → (AS → Prop) → Prop
  | .mov x, d, s, K => K (s.put d (s.ev x))
  | .nils z, d, s, K => K (s.put d (.v (.slice none 0 0))) ∨ ∃ r, d = some r ∧ K (((s.kill r).mem r (true, [])).put d (.sl r z 0 0))
  | .pick c a b, d, s, K => ∃ t, s.ev c = .v (.bool t) ∧ (t = true → K (s.put d (s.ev a))) ∧ (t = false → K (s.put d (s.ev b)))
  | .not x, d, s, K => ∃ t, s.ev x = .v (.bool t) ∧ K (s.put d (.v (.bool !t)))
  | .neg x, d, s, K => ∃ k n, s.ev x = .v (.int k n) ∧ K (s.put d (.v (.int k (k.wrap (0 - n)))))
  | .bin op x y, d, s, K => ∃ a b r, s.ev x = .v a ∧ s.ev y = .v b ∧ pbin op a b = some r ∧ K (s.put d (.v r))
  | .beq ne x y, d, s, K => ∃ a b, s.ev x = .v (.bool a) ∧ s.ev y = .v (.bool b) ∧ K (s.put d (.v (.bool (ne ^^ (a == b)))))
  | .len x, d, s, K =>
    (∃ r z off n, s.ev x = .sl r z off n ∧ K (s.put d (.v (.int .i64 n)))) ∨ (∃ fr z cs n, s.ev x = .ro fr z cs n ∧ K (s.put d (.v (.int .i64 n)))) ∨
    (∃ a n c, s.ev x = .v (.slice a n c) ∧ K (s.put d (.v (.int .i64 n))))
  | .isnil ne x, d, s, K => (∃ c, s.ev x = .v (.slice none 0 c) ∧ K (s.put d (.v (.bool !ne)))) ∨ ∃ n, ((∃ r z off, s.ev x = .sl r z off n) ∨ (∃ fr z cs, s.ev x = .ro fr z cs n) ∨ (n = 0 ∧ ∃ c, s.ev x = .v (.slice none 0 c))) ∧ (0 < n → K (s.put d (.v (.bool ne)))) ∧ (n = 0 → ∀ b, K (s.put d (.v (.bool b))))
  | .slen x, d, s, K => ∃ b, s.ev x = .v (.string b) ∧ K (s.put d (.v (.int .i64 b.size)))
  | .capn x, d, s, K => ∃ a n c, s.ev x = .v (.slice a n c) ∧ K (s.put d (.v (.int .i64 (c : Nat))))
  | .idx z x i, d, s, K => ∃ k j, s.ev i = .v (.int k j) ∧ 0 ≤ j ∧
    ((∃ r off n, s.ev x = .sl r z off n ∧ j < n ∧ K (s.put d (.pt r (off + j.toNat * z)))) ∨ (∃ fr cs n, s.ev x = .ro fr z cs n ∧ j < n ∧ K (s.put d (.rp (cs.drop (j.toNat * z))))) ∨
     (∃ v L, s.ev x = .v v ∧ Bys v L ∧ j < L.length ∧ z = 1 ∧ K (s.put d (.rp ((byteVs L).drop j.toNat)))))
  | .arr z n x i, d, s, K => ∃ k j, s.ev i = .v (.int k j) ∧ 0 ≤ j ∧ j < n ∧
    ((∃ r off, s.ev x = .pt r off ∧ K (s.put d (.pt r (off + j.toNat * z)))) ∨ (∃ cs, s.ev x = .rp cs ∧ K (s.put d (.rp (cs.drop (j.toNat * z))))))
  | .ld none x, d, s, K =>
    (∃ r off fl cs c, s.ev x = .pt r off ∧ s.hp r = some (fl, cs) ∧ cs[off]? = some c ∧ K (s.put d c)) ∨ (∃ cs c, s.ev x = .rp cs ∧ cs[0]? = some c ∧ K (s.put d c))
  | .ld (some k) x, d, s, K =>
    (∃ r off fl cs, s.ev x = .pt r off ∧ s.hp r = some (fl, cs) ∧ off + k ≤ cs.length ∧ K (s.put d (.agg ((cs.drop off).take k)))) ∨
    (∃ cs, s.ev x = .rp cs ∧ k ≤ cs.length ∧ K (s.put d (.agg (cs.take k))))
  | .st k x y, _, s, K => ∃ r off fl cs, s.ev x = .pt r off ∧ s.hp r = some (fl, cs) ∧
    ((k = 1 ∧ off < cs.length ∧ cellOk fl (s.ev y) = true ∧ K (s.mem r (fl, cs.set off (s.ev y)))) ∨
     (∃ l, s.ev y = .agg l ∧ l.length = k ∧ off + k ≤ cs.length ∧ l.all (cellOk fl) = true ∧ K (s.mem r (fl, cs.take off ++ l ++ cs.drop (off + k)))))
  | .mk z bs zero l c, d, s, K => ∃ r kl kc n m, d = some r ∧ s.ev l = .v (.int kl n) ∧ s.ev c = .v (.int kc m) ∧ 0 ≤ n ∧ n ≤ m ∧ (bs : Int) * m ≤ 281474976710656 ∧ m ≤ 9223372036854775807 ∧
    K (((s.kill r).mem r (true, (List.replicate n.toNat (zero.map AV.v)).flatten)).put d (.sl r z 0 n.toNat))
  | .cut z x lo hi, d, s, K => ∃ l h, Bnd s lo l 0 ∧
    ((∃ r off n, s.ev x = .sl r z off n ∧ Bnd s hi h n ∧ l ≤ h ∧ h ≤ n ∧ K (s.put d (.sl r z (off + l * z) (h - l)))) ∨
     (∃ fr cs n, s.ev x = .ro fr z cs n ∧ Bnd s hi h n ∧ l ≤ h ∧ h ≤ n ∧ K (s.put d (.ro false z ((cs.drop (l * z)).take ((h - l) * z)) (h - l)))) ∨
     (s.ev x = .v (.slice none 0 0) ∧ l = 0 ∧ h = 0 ∧ Bnd s hi h 0 ∧ K (s.put d (.v (.slice none 0 0)))))
  | .app z bs x y, d, s, K => (∃ q r n m fl cs ys, d = some q ∧ s.ev x = .sl r z 0 n ∧ r < pbase ∧ s.hp r = some (fl, cs) ∧ cs.length = n * z ∧ Elems s.hp z (s.ev y) m ys ∧ ys.all (cellOk fl) = true ∧
    n + m ≤ maxLen ∧ (n + m) * bs ≤ 140737488355328 ∧
    K ((((s.kill r).kill q).mem q (killR q (killR r (fl, cs ++ ys)))).put d (.sl q z 0 (n + m)))) ∨
    (∃ q n m cs ys, d = some q ∧ s.ev x = .fu z cs n ∧ Elems s.hp z (s.ev y) m ys ∧ 0 < m ∧ ys.all (cellOk true) = true ∧ n + m ≤ maxLen ∧ (n + m) * bs ≤ 140737488355328 ∧
    K (((s.kill q).mem q (true, cs ++ ys)).put d (.sl q z 0 (n + m))))
  | .cut3 z x hi mx, d, s, K => ∃ fr cs n k k', s.ev x = .ro fr z cs n ∧ s.ev hi = .v (.int k (n : Nat)) ∧ s.ev mx = .v (.int k' (n : Nat)) ∧ K (s.put d (.fu z cs n))
  | .appz z bs zero x y, d, s, K => ∃ r kl m, d = some r ∧ s.ev x = .v (.slice none 0 0) ∧ s.ev y = .v (.int kl (m : Nat)) ∧ 0 < m ∧ m ≤ maxLen ∧ m * bs ≤ 140737488355328 ∧
    K (((s.kill r).mem r (true, (List.replicate m (zero.map AV.v)).flatten)).put d (.sl r z 0 m))
  | .call f args, d, s, K => acall P own f args d s K
  | .ext x i, d, s, K => ∃ l c, s.ev x = .tup l ∧ l[i]? = some c ∧ K (s.put d c)
  | .alloc zero, d, s, K => ∃ r fl, d = some r ∧ K (((s.kill r).mem r (fl, zero.map AV.v)).put d (.pt r 0))
  | .box k x, d, s, K => ∃ r fl, d = some r ∧
    ((k = 1 ∧ cellOk fl (s.ev x) = true ∧ K (((s.kill r).mem r (killR r (fl, [s.ev x]))).put d (.pt r 0))) ∨
     (∃ l, s.ev x = .agg l ∧ l.all (cellOk fl) = true ∧ K (((s.kill r).mem r (killR r (fl, l))).put d (.pt r 0))))
  | .bsl z n zero parts, d, s, K => ∃ r fl out, d = some r ∧ afill s z fl ((List.replicate n (zero.map AV.v)).flatten) parts out ∧
    K (((s.kill r).mem r (killR r (fl, out))).put d (.sl r z 0 n))
  | .fa off x, d, s, K => (∃ r o, s.ev x = .pt r o ∧ K (s.put d (.pt r (o + off)))) ∨ (∃ cs, s.ev x = .rp cs ∧ K (s.put d (.rp (cs.drop off))))
  | .pu g args, d, s, K => ∃ r, g.res (args.map s.ev) r ∧ K (s.put d r)
  | .callv x args, d, s, K => (∃ f, s.ev x = .v (.func (.func f) #[] #[]) ∧ Callable P f ∧ acallA P own f (args.map s.ev) d s K) ∨
    (∃ f l k, s.ev x = .fn f l k ∧ Callable P f ∧ acallA P own f (l.take k ++ args.map s.ev ++ l.drop k) d s K)
  | .mkf f k args, d, s, K => K (s.put d (.fn f (args.map s.ev) k))
  | .cpy z x y, d, s, K => ∃ r off n fl cs m ys, s.ev x = .sl r z off n ∧ s.hp r = some (fl, cs) ∧ off + n * z ≤ cs.length ∧ Elems s.hp z (s.ev y) m ys ∧ ys.length = m * z ∧ ys.all (cellOk fl) = true ∧
    K ((s.mem r (fl, cs.take off ++ ys.take (min m n * z) ++ cs.drop (off + min m n * z))).put d (.v (.int .i64 (min m n : Nat))))
  | .bts x, d, s, K => ∃ bs, Elems s.hp 1 (s.ev x) bs.length (byteVs bs) ∧ K (s.put d (.v (.string ⟨bs.toArray⟩)))
  | .acut z n x lo hi, d, s, K => ∃ r off l h fl cs, s.ev x = .pt r off ∧ s.hp r = some (fl, cs) ∧ Bnd s lo l 0 ∧ Bnd s hi h n ∧ l ≤ h ∧ h ≤ n ∧ n ≤ 9007199254740992 ∧ off + n * z ≤ cs.length ∧
    K (s.put d (.sl r z (off + l * z) (h - l)))
  | .rng x, d, s, K => ∃ r b, d = some r ∧ s.ev x = .v (.string b) ∧ K (((s.kill r).mem r (true, [.ob (.stringIter b 0)])).put d (.itr r))
  | .nxs x, d, s, K => ∃ r b p, s.ev x = .itr r ∧ s.hp r = some (true, [.ob (.stringIter b p)]) ∧
    (b.size ≤ p → K (s.put d (.tup [.v (.bool false)]))) ∧
    (p < b.size → K ((s.mem r (true, [.ob (.stringIter b (p + (Utf8.decode b p).2))])).put d (.tup [.v (.bool true), .v (.int .i64 (p : Nat)), .v (.int .i32 ((Utf8.decode b p).1 : Nat))])))
  | .nchk x, d, s, K => (∃ r o, s.ev x = .pt r o ∧ K (s.put d (.pt r o))) ∨ (∃ cs, s.ev x = .rp cs ∧ K (s.put d (.rp cs)))
  | .mmk, d, s, K => ∃ r, d = some r ∧ K (((s.kill r).mem r (true, [.ob (.map #[] 0)])).put d (.mp r))
  | .mget k z ok x i, d, s, K => ∃ r es clock j, s.ev x = .mp r ∧ s.hp r = some (true, [.ob (.map es clock)]) ∧ s.ev i = .v (.int k j) ∧ (∀ e ∈ es.toList, ∃ q, e.key = .int k q) ∧
    (∀ e ∈ es.toList, e.key = .int k j → K (s.put d (mres ok e.val true))) ∧ ((∀ e ∈ es.toList, e.key ≠ .int k j) → K (s.put d (mres ok z false)))
  | .mput k x i y, _, s, K => ∃ r es clock j v, s.ev x = .mp r ∧ s.hp r = some (true, [.ob (.map es clock)]) ∧ s.ev i = .v (.int k j) ∧ s.ev y = .v v ∧ (∀ e ∈ es.toList, ∃ q, e.key = .int k q) ∧
    (∀ (n : Nat) (e : MapEntry), es.toList[n]? = some e → e.key = .int k j → K (s.mem r (true, [.ob (.map (es.modify n fun e => { e with key := .int k j, val := v }) clock)]))) ∧
    ((∀ e ∈ es.toList, e.key ≠ .int k j) → K (s.mem r (true, [.ob (.map (es.push { key := .int k j, val := v, born := clock }) (clock + 1))])))
  | .mgetk kt z ok x i, d, s, K => WideMaps.KeyLaw P kt ∧ ∃ es clock kv, MapAt s (s.ev x) es clock ∧ exV (s.ev i) = some kv ∧ (∃ l, keyOf P kt kv = some l) ∧ (∀ e ∈ es.toList, ∃ l, keyOf P kt e.key = some l) ∧
    ∃ x, (∀ e ∈ es.toList, e.key = kv → mres ok e.val true = x) ∧ ((∀ e ∈ es.toList, e.key ≠ kv) → mres ok z false = x) ∧ K (s.put d x)
  | .mputk kt x i y, _, s, K => WideMaps.KeyLaw P kt ∧ ∃ r es clock kv v, s.ev x = .mp r ∧ s.hp r = some (true, [.ob (.map es clock)]) ∧ exV (s.ev i) = some kv ∧ s.ev y = .v v ∧ (∃ l, keyOf P kt kv = some l) ∧ (∀ e ∈ es.toList, ∃ l, keyOf P kt e.key = some l) ∧
    (∀ (n : Nat) (e : MapEntry), es.toList[n]? = some e → e.key = kv → K (s.mem r (true, [.ob (.map (es.modify n fun e => { e with key := kv, val := v }) clock)]))) ∧
    ((∀ e ∈ es.toList, e.key ≠ kv) → K (s.mem r (true, [.ob (.map (es.push { key := kv, val := v, born := clock }) (clock + 1))])))
  | .mrg x, d, s, K => ∃ r, d = some r ∧
    ((∃ q es clock, s.ev x = .mp q ∧ q ≠ r ∧ s.hp q = some (true, [.ob (.map es clock)]) ∧ ∀ bm, K (((s.kill r).mem r (true, [.ob (.mapIter (some bm) clock #[] clock)])).put d (.mit r (some q) bm #[] 0))) ∨
     (∃ fr es clock, s.ev x = .rmp fr es clock ∧ ∀ bm, K (((s.kill r).mem r (true, [.ob (.mapIter (some bm) clock #[] clock)])).put d (.mit r none bm es clock))))
  | .mnx x, d, s, K => ∃ (r : Nat) (m : Option Nat) (bm : Nat) (es0 : Array MapEntry) (ck0 since : Nat) (seen : Array Nat) (c0 : Nat) (es : Array MapEntry) (clock : Nat), s.ev x = .mit r m bm es0 ck0 ∧ s.hp r = some (true, [.ob (.mapIter (some bm) since seen c0)]) ∧
    ((∃ q, m = some q ∧ q ≠ r ∧ s.hp q = some (true, [.ob (.map es clock)])) ∨ (m = none ∧ es = es0 ∧ clock = ck0)) ∧ (∀ e ∈ es.toList, e.born < since) ∧ since ≤ c0 ∧
    ((∀ e ∈ es.toList, seen.contains e.born = true) → K (s.put d (.tup [.v (.bool false)]))) ∧
    (∀ e ∈ es.toList, seen.contains e.born = false → K ((s.mem r (true, [.ob (.mapIter (some bm) since (seen.push e.born) clock)])).put d (.tup [.v (.bool true), .any, .any])))
  | .ment x, d, s, K => ∃ (r : Nat) (m : Option Nat) (bm : Nat) (es0 : Array MapEntry) (ck0 since : Nat) (seen : Array Nat) (es : Array MapEntry) (clock : Nat) (e : MapEntry) (ka va : AV), s.ev x = .mit r m bm es0 ck0 ∧ s.hp r = some (true, [.ob (.mapIter (some bm) since (seen.push e.born) clock)]) ∧
    ((∃ q, m = some q ∧ q ≠ r ∧ s.hp q = some (true, [.ob (.map es clock)])) ∨ (m = none ∧ es = es0 ∧ clock = ck0)) ∧ e ∈ es.toList ∧ (es.toList.map (·.born)).Nodup ∧
    exV ka = some e.key ∧ exV va = some e.val ∧ K (s.put d (.tup [ka, va]))
  | .mdel kt x i, d, s, K => WideMaps.KeyLaw P kt ∧ ∃ r es clock kv, s.ev x = .mp r ∧ s.hp r = some (true, [.ob (.map es clock)]) ∧ exV (s.ev i) = some kv ∧ (∃ l, keyOf P kt kv = some l) ∧ (∀ e ∈ es.toList, ∃ l, keyOf P kt e.key = some l) ∧
    (∀ (n : Nat) (e : MapEntry), es.toList[n]? = some e → e.key = kv → K ((s.mem r (true, [.ob (.map (es.eraseIdxIfInBounds n) clock)])).put d (.tup []))) ∧
    ((∀ e ∈ es.toList, e.key ≠ kv) → K ((s.mem r (true, [.ob (.map es clock)])).put d (.tup [])))
  | .mnil ne x, d, s, K => ((∃ r, s.ev x = .mp r) ∨ ∃ fr es clock, s.ev x = .rmp fr es clock) ∧ K (s.put d (.v (.bool ne)))
  | .xcall f args, d, s, K => ∃ (fn : Func) (e : Array Value → Sem Value) (vs : List Value) (v : Value), P.funcs[f]? = some fn ∧ (fn.name == "runtime.NumGoroutine") = false ∧ fn.body.isNone = true ∧ Extern.findNext fn = none ∧ Extern.find fn = some e ∧ args.map s.ev = vs.map AV.v ∧
    (∀ w, (e vs.toArray).run P w = .ok v w) ∧ K (s.put d (.v v))
  | .dead, _, _, _ => False
/-- One operation, with its guard. -/
def aop1 (P : Program) (own : Bool) (o : AOper) (s : AS) (K : AS → Prop) : Prop :=
  match o.g with
  | none => aexec P own o.op o.d s K
  | some (t, w) =>
    (∃ b, s.tm t = .v (.bool b) ∧ (b = w → aexec P own o.op o.d s K) ∧ (b = !w → K (s.put o.d (.v undef)))) ∨
    (s.tm t = .v undef ∧ K (s.put o.d (.v undef)))
def Simw (w0 : World) (mu : Nat → Option Nat) (N : Nat) (s : AS) (a : Act) (w : World) : Prop := a.defers = [] ∧ ∃ phi ro, Sim w0 mu N s a.tmps w phi ro
/-- The state s' says no more than s. -/
def Weak (s s' : AS) : Prop := ∀ w0 mu N a w, Simw w0 mu N s a w → Simw w0 mu N s' a w
def aops (P : Program) (own : Bool) : List AOper → AS → (AS → Prop) → Prop
  | [], s, Q => Q s
  | o :: l, s, Q => ∃ s1, Weak s s1 ∧ aop1 P own o s1 fun s' => aops P own l s' Q
end Go.Am
namespace Go.Am
variable [Go.Am.CodeBlk]
theorem Sim.ev {w0 w : World} {mu : Nat → Option Nat} {N : Nat} {s : AS} {a : Act} {phi : Nat → Option Nat} {ro : Nat → Prop} (h : Sim w0 mu N s a.tmps w phi ro) (x : Operand) :
    SimV (s.ev (opd x)) (ctx w0 w ro phi s) (a.eval x) := by
  cases x with
  | tmp t => exact h.tms t
  | const v => simp [opd, AS.ev, SimV, Act.eval]
  | global g => simp [opd, AS.ev, SimV, Act.eval]
  | func f => simp [opd, AS.ev, SimV, Act.eval]
theorem kill_mem (s : AS) (r : Nat) (c : Bool × List AV) : (s.mem r c).kill r = s.kill r := by
  simp only [AS.mem, AS.kill, AS.mk.injEq, true_and]
  funext q
  by_cases hq : q = r <;> simp [hq]
theorem kill_hp (s : AS) (r : Nat) : (s.kill r).hp r = none := by simp [AS.kill]
/-- A new block becomes region r. -/
theorem Sim.new {w0 w w' : World} {mu : Nat → Option Nat} {N : Nat} {s : AS} {tm : Array Value} {phi : Nat → Option Nat} {ro : Nat → Prop} (h : Sim w0 mu N s tm w phi ro)
    (hm : More w w') (r : Nat) (hpb : r < pbase) (c : Bool × List AV) {b : Nat} {cur : Array Value} {e : TypeId} (hb1 : w.heap.size ≤ b) (hb2 : w'.heap[b]? = some (.cells cur e (0, 0)))
    (hc : SimR c (ctx w0 w ro phi s) cur.toList) : ∃ phi', phi' r = some b ∧ Sim w0 mu N ((s.kill r).mem r (killR r c)) tm w' phi' ro := by
  have h1 := (h.more_same hm).kill r
  refine ⟨fun q => if q = r then some b else phi q, by simp, h1.born (kill_hp s r) hpb (killR r c) (some b) ⟨fun hr => ?_, .inl (Nat.le_trans h.size hb1), fun q hq hp => ?_, .inl ⟨cur, e, hb2, ?_⟩⟩⟩
  · have := h.rob b hr; omega
  · have hqr : q ≠ r := fun e => by subst e; simp [kill_hp] at hq
    have hq' : (s.hp q).isSome = true := by simpa [AS.kill, hqr] using hq
    obtain ⟨c', hc'⟩ := Option.isSome_iff_exists.1 hq'
    rcases h.liv q c' hc' with ⟨h2, _⟩ | ⟨b', cur', e', h2, h3, _⟩ | ⟨b', o', _, h2, h3, _⟩
    · simp [h2] at hp
    · rw [h2] at hp
      cases hp
      have := lt_of_get h3
      omega
    · rw [h2] at hp
      cases hp
      have := lt_of_get h3
      omega
  · refine hc.kill ⟨fun b hb => ⟨hb, hm.block b (h.rob b hb)⟩, Nat.le_refl _, id, fun _ q hq hl => ?_, fun _ q b cur e _ _ _ hb => ⟨cur, (hm.block b (lt_of_get hb)).trans hb, Nat.le_refl _⟩⟩
    have hqr : q ≠ r := by simpa using hq
    refine ⟨?_, by simp [ctx, hqr]⟩
    simpa [ctx, AS.mem, AS.kill, hqr] using hl
/-- A new object that is no row of cells becomes region r. -/
theorem Sim.newOb2 {w0 w w' : World} {mu : Nat → Option Nat} {N : Nat} {s : AS} {tm : Array Value} {phi : Nat → Option Nat} {ro : Nat → Prop} (h : Sim w0 mu N s tm w phi ro)
    (hm : More w w') (r : Nat) (hpb : r < pbase) {b : Nat} {o : Obj} (hb1 : w.heap.size ≤ b) (hb2 : w'.heap[b]? = some o) (ho : isCells o = false) :
    ∃ phi', phi' r = some b ∧ (∀ q, q ≠ r → phi' q = phi q) ∧ Sim w0 mu N ((s.kill r).mem r (true, [.ob o])) tm w' phi' ro := by
  have h1 := (h.more_same hm).kill r
  refine ⟨fun q => if q = r then some b else phi q, by simp, fun q hq => by simp [hq], h1.born (kill_hp s r) hpb (true, [.ob o]) (some b) ⟨fun hr => ?_, .inl (Nat.le_trans h.size hb1), fun q hq hp => ?_, .inr ⟨o, rfl, hb2, ho⟩⟩⟩
  · have := h.rob b hr; omega
  · have hqr : q ≠ r := fun e => by subst e; simp [kill_hp] at hq
    have hq' : (s.hp q).isSome = true := by simpa [AS.kill, hqr] using hq
    obtain ⟨c', hc'⟩ := Option.isSome_iff_exists.1 hq'
    rcases h.liv q c' hc' with ⟨h2, _⟩ | ⟨b', cur', e', h2, h3, _⟩ | ⟨b', o', _, h2, h3, _⟩
    · simp [h2] at hp
    · rw [h2] at hp
      cases hp
      have := lt_of_get h3
      omega
    · rw [h2] at hp
      cases hp
      have := lt_of_get h3
      omega
theorem Sim.newOb {w0 w w' : World} {mu : Nat → Option Nat} {N : Nat} {s : AS} {tm : Array Value} {phi : Nat → Option Nat} {ro : Nat → Prop} (h : Sim w0 mu N s tm w phi ro)
    (hm : More w w') (r : Nat) (hpb : r < pbase) {b : Nat} {o : Obj} (hb1 : w.heap.size ≤ b) (hb2 : w'.heap[b]? = some o) (ho : isCells o = false) :
    ∃ phi', phi' r = some b ∧ Sim w0 mu N ((s.kill r).mem r (true, [.ob o])) tm w' phi' ro := by
  obtain ⟨phi', h1, _, h2⟩ := h.newOb2 hm r hpb hb1 hb2 ho
  exact ⟨phi', h1, h2⟩
/-- The block of a region is written. -/
theorem Sim.write {w0 w w' : World} {mu : Nat → Option Nat} {N : Nat} {s : AS} {tm : Array Value} {phi : Nat → Option Nat} {ro : Nat → Prop} (h : Sim w0 mu N s tm w phi ro)
    {r : Nat} {c c' : Bool × List AV} (hr : s.hp r = some c) {b : Nat} (hb : phi r = some b) {cur cur' : Array Value} {e : TypeId} (hcell : w.heap[b]? = some (.cells cur e (0, 0)))
    (hw : w'.heap[b]? = some (.cells cur' e (0, 0))) (hsz : cur.size = cur'.size) (hother : ∀ k, k ≠ b → k < w.heap.size → w'.heap[k]? = w.heap[k]?) (hos : w'.os = w.os) (htape : w'.tape = w.tape) (hout : w'.output = w.output)
    (hsize : w.heap.size ≤ w'.heap.size) (hc : SimR c' (ctx w0 w ro phi s) cur'.toList) : Sim w0 mu N (s.mem r c') tm w' phi ro := by
  have hnro : ¬ ro b ∧ (r < pbase ∧ Mine w0 mu b ∨ pbase ≤ r ∧ mu r = some b) := by
    rcases h.liv r c hr with ⟨h1, _⟩ | ⟨b', _, _, h1, _, h2, h3, _⟩ | ⟨b', _, _, h1, _, _, h2, h3⟩
    · simp [h1] at hb
    · rw [hb] at h1; cases h1; exact ⟨h2, h3⟩
    · rw [hb] at h1; cases h1; exact ⟨h2, h3⟩
  have hlv : ∀ q, ((s.mem r c').hp q).isSome = (s.hp q).isSome := by
    intro q
    by_cases hq : q = r
    · subst hq; simp [AS.mem, hr]
    · simp [AS.mem, hq]
  have hle : (ctx w0 w ro phi s).Le (ctx w0 w' ro phi (s.mem r c')) := by
    refine ⟨fun k hk => ⟨hk, hother k (fun e => hnro.1 (e ▸ hk)) (h.rob k hk)⟩, Nat.le_refl _, id, fun _ q _ hl => ⟨by simpa [ctx, hlv] using hl, rfl⟩, fun _ q k cur0 e0 _ _ _ hk => ?_⟩
    by_cases hkb : k = b
    · subst hkb
      have hk' : w.heap[k]? = some (.cells cur0 e0 (0, 0)) := hk
      rw [hcell] at hk'
      cases hk'
      exact ⟨cur', hw, Nat.le_of_eq hsz⟩
    · exact ⟨cur0, (hother k hkb (lt_of_get hk)).trans hk, Nat.le_refl _⟩
  exact {
    os := hos.trans h.os, tape := htape.trans h.tape, output := hout.trans h.output, size := Nat.le_trans h.size hsize
    kept := fun k hk hmu => by
      by_cases hkb : k = b
      · subst hkb
        rcases hnro.2 with ⟨_, h1 | ⟨r', _, h1⟩⟩ | h1
        · omega
        · exact absurd h1 (hmu r')
        · exact absurd h1.2 (hmu r)
      · exact (hother k hkb (Nat.lt_of_lt_of_le hk h.size)).trans (h.kept k hk hmu)
    shp := fun k c0 e0 f0 hk => by
      obtain ⟨c1, g1, g2⟩ := h.shp k c0 e0 f0 hk
      by_cases hkb : k = b
      · subst hkb
        rw [hcell] at g1
        cases g1
        exact ⟨cur', hw, by omega⟩
      · exact ⟨c1, (hother k hkb (lt_of_get g1)).trans g1, g2⟩
    npb := h.npb
    gd := h.gd
    rob := fun k hk => Nat.lt_of_lt_of_le (h.rob k hk) hsize
    inj := fun q q' k hq hq' h1 h2 => h.inj q q' k (by simpa [hlv] using hq) (by simpa [hlv] using hq') h1 h2
    liv := fun q d hq => by
      by_cases hqr : q = r
      · subst hqr
        simp [AS.mem] at hq
        subst hq
        exact .inr (.inl ⟨b, cur', e, hb, hw, hnro.1, hnro.2, hc.mono hle⟩)
      · simp [AS.mem, hqr] at hq
        rcases h.liv q d hq with h1 | ⟨k, cur0, e0, h1, h2, h3, h4, h5⟩ | ⟨k, o0, h0, h1, h2, h3, h4, h5⟩
        · exact .inl h1
        · have hkb : k ≠ b := fun e => hqr (h.inj q r b (by simp [hq]) (by simp [hr]) (e ▸ h1) hb)
          exact .inr (.inl ⟨k, cur0, e0, h1, (hother k hkb (lt_of_get h2)).trans h2, h3, h4, h5.mono hle⟩)
        · have hkb : k ≠ b := fun e => hqr (h.inj q r b (by simp [hq]) (by simp [hr]) (e ▸ h1) hb)
          exact .inr (.inr ⟨k, o0, h0, h1, (hother k hkb (lt_of_get h2)).trans h2, h3, h4, h5⟩)
    tms := fun t => SimV.mono _ _ _ _ hle (h.tms t)
    slots := h.slots }
/-- An object is written. -/
theorem Sim.writeOb {w0 w w' : World} {mu : Nat → Option Nat} {N : Nat} {s : AS} {tm : Array Value} {phi : Nat → Option Nat} {ro : Nat → Prop} (h : Sim w0 mu N s tm w phi ro)
    {r : Nat} {c : Bool × List AV} (hr : s.hp r = some c) {b : Nat} (hb : phi r = some b) {o o' : Obj} (hcell : w.heap[b]? = some o) (hoc : isCells o = false)
    (hw : w'.heap[b]? = some o') (hoc' : isCells o' = false) (hother : ∀ k, k ≠ b → k < w.heap.size → w'.heap[k]? = w.heap[k]?) (hos : w'.os = w.os) (htape : w'.tape = w.tape) (hout : w'.output = w.output)
    (hsize : w.heap.size ≤ w'.heap.size) : Sim w0 mu N (s.mem r (true, [.ob o'])) tm w' phi ro := by
  have hnro : ¬ ro b ∧ (r < pbase ∧ Mine w0 mu b ∨ pbase ≤ r ∧ mu r = some b) := by
    rcases h.liv r c hr with ⟨h1, _⟩ | ⟨b', _, _, h1, _, h2, h3, _⟩ | ⟨b', _, _, h1, _, _, h2, h3⟩
    · simp [h1] at hb
    · rw [hb] at h1; cases h1; exact ⟨h2, h3⟩
    · rw [hb] at h1; cases h1; exact ⟨h2, h3⟩
  have hlv : ∀ q, ((s.mem r (true, [.ob o'])).hp q).isSome = (s.hp q).isSome := by
    intro q
    by_cases hq : q = r
    · subst hq; simp [AS.mem, hr]
    · simp [AS.mem, hq]
  have hle : (ctx w0 w ro phi s).Le (ctx w0 w' ro phi (s.mem r (true, [.ob o']))) := by
    refine ⟨fun k hk => ⟨hk, hother k (fun e => hnro.1 (e ▸ hk)) (h.rob k hk)⟩, Nat.le_refl _, id, fun _ q _ hl => ⟨by simpa [ctx, hlv] using hl, rfl⟩, fun _ q k cur0 e0 _ _ _ hk => ?_⟩
    by_cases hkb : k = b
    · subst hkb
      have hk' : w.heap[k]? = some (.cells cur0 e0 (0, 0)) := hk
      rw [hcell] at hk'
      cases hk'
      simp [isCells] at hoc
    · exact ⟨cur0, (hother k hkb (lt_of_get hk)).trans hk, Nat.le_refl _⟩
  exact {
    os := hos.trans h.os, tape := htape.trans h.tape, output := hout.trans h.output, size := Nat.le_trans h.size hsize
    kept := fun k hk hmu => by
      by_cases hkb : k = b
      · subst hkb
        rcases hnro.2 with ⟨_, h1 | ⟨r', _, h1⟩⟩ | h1
        · omega
        · exact absurd h1 (hmu r')
        · exact absurd h1.2 (hmu r)
      · exact (hother k hkb (Nat.lt_of_lt_of_le hk h.size)).trans (h.kept k hk hmu)
    shp := fun k c0 e0 f0 hk => by
      obtain ⟨c1, g1, g2⟩ := h.shp k c0 e0 f0 hk
      by_cases hkb : k = b
      · subst hkb
        rw [hcell] at g1
        cases g1
        simp [isCells] at hoc
      · exact ⟨c1, (hother k hkb (lt_of_get g1)).trans g1, g2⟩
    npb := h.npb
    gd := h.gd
    rob := fun k hk => Nat.lt_of_lt_of_le (h.rob k hk) hsize
    inj := fun q q' k hq hq' h1 h2 => h.inj q q' k (by simpa [hlv] using hq) (by simpa [hlv] using hq') h1 h2
    liv := fun q d hq => by
      by_cases hqr : q = r
      · subst hqr
        simp [AS.mem] at hq
        subst hq
        exact .inr (.inr ⟨b, o', rfl, hb, hw, hoc', hnro.1, hnro.2⟩)
      · simp [AS.mem, hqr] at hq
        rcases h.liv q d hq with h1 | ⟨k, cur0, e0, h1, h2, h3, h4, h5⟩ | ⟨k, o0, h0, h1, h2, h3, h4, h5⟩
        · exact .inl h1
        · have hkb : k ≠ b := fun e => hqr (h.inj q r b (by simp [hq]) (by simp [hr]) (e ▸ h1) hb)
          exact .inr (.inl ⟨k, cur0, e0, h1, (hother k hkb (lt_of_get h2)).trans h2, h3, h4, h5.mono hle⟩)
        · have hkb : k ≠ b := fun e => hqr (h.inj q r b (by simp [hq]) (by simp [hr]) (e ▸ h1) hb)
          exact .inr (.inr ⟨k, o0, h0, h1, (hother k hkb (lt_of_get h2)).trans h2, h3, h4, h5⟩)
    tms := fun t => SimV.mono _ _ _ _ hle (h.tms t)
    slots := h.slots }
/-- A region's block gets another name. -/
theorem Sim.rename {w0 w : World} {mu : Nat → Option Nat} {N : Nat} {s : AS} {tm : Array Value} {phi : Nat → Option Nat} {ro : Nat → Prop} (h : Sim w0 mu N s tm w phi ro)
    {r q : Nat} {c : Bool × List AV} (hr : s.hp r = some c) (hp : r < pbase) (hpq : q < pbase) {b : Nat} (hb : phi r = some b) :
    ∃ phi', phi' q = some b ∧ Sim w0 mu N (((s.kill r).kill q).mem q (killR q (killR r c))) tm w phi' ro := by
  have hk := (h.kill r).kill q
  have hne : ∀ p, (((s.kill r).kill q).hp p).isSome = true → p ≠ r ∧ p ≠ q ∧ (s.hp p).isSome = true := by
    intro p hp
    have hpq : p ≠ q := fun e => by subst e; simp [kill_hp] at hp
    have hp' : ((s.kill r).hp p).isSome = true := by simpa [AS.kill, hpq] using hp
    have hpr : p ≠ r := fun e => by subst e; simp [kill_hp] at hp'
    exact ⟨hpr, hpq, by simpa [AS.kill, hpr] using hp'⟩
  have hoth : ∀ p, (((s.kill r).kill q).hp p).isSome = true → phi p ≠ some b := by
    intro p hp hpb
    obtain ⟨hpr, _, hps⟩ := hne p hp
    exact hpr (h.inj p r b hps (by simp [hr]) hpb hb)
  rcases h.liv r c hr with ⟨h1, _⟩ | ⟨b', cur, e, h1, h2, h3, h4, h5⟩ | ⟨b', o, rfl, h1, h2, h3, h4, h5⟩
  · simp [h1] at hb
  case inr.inr =>
    rw [hb] at h1
    cases h1
    exact ⟨fun p => if p = q then some b else phi p, by simp, hk.born (kill_hp _ q) hpq _ (some b) ⟨h4, (h5.resolve_right fun h5 => by omega).2, hoth, .inr ⟨o, rfl, h2, h3⟩⟩⟩
  rw [hb] at h1
  cases h1
  refine ⟨fun p => if p = q then some b else phi p, by simp, hk.born (kill_hp _ q) hpq _ (some b) ⟨h3, (h4.resolve_right fun h5 => by omega).2, hoth, .inl ⟨cur, e, h2, ?_⟩⟩⟩
  · have hle : ∀ (s1 s2 : AS) (x : Nat) (phi2 : Nat → Option Nat), (∀ p, p ≠ x → (s1.hp p).isSome = true → (s2.hp p).isSome = true ∧ phi2 p = phi p) → (ctx w0 w ro phi s1).LeOn (fun p => !(p == x)) (ctx w0 w ro phi2 s2) := by
      intro s1 s2 x phi2 hh
      exact ⟨fun b hb => ⟨hb, rfl⟩, Nat.le_refl _, id, fun _ p hp hl => hh p (by simpa using hp) hl, fun _ p b cur e _ _ _ hb => ⟨cur, hb, Nat.le_refl _⟩⟩
    have g1 : SimR (killR r c) (ctx w0 w ro phi (s.kill r)) cur.toList := h5.kill (hle _ _ _ _ fun p hp hl => ⟨by simpa [AS.kill, hp] using hl, rfl⟩)
    exact g1.kill (hle _ _ _ _ fun p hp hl => ⟨by simp [AS.mem, AS.kill, hp] at hl ⊢; exact hl, by simp [hp]⟩)
/-- Where a state leads, seen from the model. -/
def After (w0 : World) (mu : Nat → Option Nat) (N : Nat) (K : AS → Prop) (a : Act) (w : World) : Prop := ∃ s, K s ∧ Simw w0 mu N s a w
theorem put_defers (a : Act) (d : Option Nat) (v : Value) : (a.put d v).defers = a.defers := by cases d <;> rfl
theorem wp_value {P : Program} {o : Oper} {a : Act} {w w' : World} {v : Value} {R : Act → World → Prop} {Q : Exit → Act → World → Prop}
    (hr : (execOp a.eval o).run P w = .ok (.value v) w') (h : R (a.put o.dst v) w') : o.wp P a w R Q := by
  unfold Oper.wp
  rw [hr]
  exact h
theorem After.put {w0 w : World} {mu : Nat → Option Nat} {N : Nat} {s : AS} {a : Act} {phi : Nat → Option Nat} {ro : Nat → Prop} {K : AS → Prop} (hf : a.defers = []) (h : Sim w0 mu N s a.tmps w phi ro)
    {d : Option Nat} (hd : ∀ k, d = some k → k < N) {x : AV} {v : Value} (hx : SimV x (ctx w0 w ro phi s) v) (hK : K (s.put d x)) : After w0 mu N K (a.put d v) w :=
  ⟨_, hK, by rw [put_defers]; exact hf, phi, ro, h.put hd hx⟩
theorem addr_add (b o n : Nat) : (⟨b, o, none⟩ : Addr).add n = ⟨b, o + n, none⟩ := by
  unfold Addr.add
  split
  · rename_i h; subst h; rfl
  · rfl
end Go.Am
namespace Go.Am
variable [Go.Am.CodeBlk]
variable {P : Program} {w0 w : World} {mu : Nat → Option Nat} {N : Nat} {s : AS} {o : Oper} {a : Act} {phi : Nat → Option Nat} {ro : Nat → Prop} {K : AS → Prop} {Q : Exit → Act → World → Prop} {own : Bool}
theorem ok_mov {x : Operand} (ho : o.op = .move x ∨ o.op = .assign x) (hf : a.defers = []) (h : Sim w0 mu N s a.tmps w phi ro) (hd : ∀ k, o.dst = some k → k < N)
    (hK : aexec P own (.mov (opd x)) o.dst s K) : o.wp P a w (After w0 mu N K) Q := by
  refine wp_value (v := a.eval x) (w' := w) ?_ (After.put hf h hd (h.ev x) hK)
  rcases ho with ho | ho <;> simp [execOp, ho]
theorem ok_nils {z : Nat} (ho : o.op = .move (.const (.slice none 0 0)) ∨ o.op = .assign (.const (.slice none 0 0))) (hf : a.defers = []) (h : Sim w0 mu N s a.tmps w phi ro) (hd : ∀ k, o.dst = some k → k < N)
    (hK : aexec P own (.nils z) o.dst s K) : o.wp P a w (After w0 mu N K) Q := by
  rcases hK with hK | ⟨r, hr, hK⟩
  · refine wp_value (v := .slice none 0 0) (w' := w) ?_ (After.put hf h hd ?_ hK)
    · rcases ho with ho | ho <;> simp [execOp, ho, Act.eval]
    · simp [SimV]
  have h1 := (h.kill r).born (kill_hp s r) (Nat.lt_of_lt_of_le (hd r hr) h.npb) (true, []) none rfl
  refine wp_value (v := .slice none 0 0) (w' := w) ?_ (After.put hf h1 hd ?_ hK)
  · rcases ho with ho | ho <;> simp [execOp, ho, Act.eval]
  · simp [SimV, ctx, AS.mem]
theorem ok_pick {c x y : Operand} (ho : o.op = .pick c x y) (hf : a.defers = []) (h : Sim w0 mu N s a.tmps w phi ro) (hd : ∀ k, o.dst = some k → k < N)
    (hK : aexec P own (.pick (opd c) (opd x) (opd y)) o.dst s K) : o.wp P a w (After w0 mu N K) Q := by
  obtain ⟨t, ht, h1, h2⟩ := hK
  have hc := h.ev c
  rw [ht] at hc
  simp only [SimV] at hc
  cases t
  · exact wp_value (v := a.eval y) (w' := w) (by simp [execOp, ho, hc, asBool]) (After.put hf h hd (h.ev y) (h2 rfl))
  · exact wp_value (v := a.eval x) (w' := w) (by simp [execOp, ho, hc, asBool]) (After.put hf h hd (h.ev x) (h1 rfl))
theorem ok_not {t : TypeId} {x : Operand} (ho : o.op = .unOp .not t x) (hf : a.defers = []) (h : Sim w0 mu N s a.tmps w phi ro) (hd : ∀ k, o.dst = some k → k < N)
    (hK : aexec P own (.not (opd x)) o.dst s K) : o.wp P a w (After w0 mu N K) Q := by
  obtain ⟨b, hb, hK⟩ := hK
  have hx := h.ev x
  rw [hb] at hx
  simp only [SimV] at hx
  exact wp_value (v := .bool !b) (w' := w) (by simp [execOp, ho, hx, Op.unary]) (After.put hf h hd (by simp [SimV]) hK)
theorem ok_neg {t : TypeId} {x : Operand} (ho : o.op = .unOp .neg t x) (hf : a.defers = []) (h : Sim w0 mu N s a.tmps w phi ro) (hd : ∀ k, o.dst = some k → k < N)
    (hK : aexec P own (.neg (opd x)) o.dst s K) : o.wp P a w (After w0 mu N K) Q := by
  obtain ⟨k, n, hb, hK⟩ := hK
  have hx := h.ev x
  rw [hb] at hx
  simp only [SimV] at hx
  exact wp_value (v := .int k (k.wrap (0 - n))) (w' := w) (by simp [execOp, ho, hx, Op.unary, Op.intArith]) (After.put hf h hd (by simp [SimV]) hK)
theorem run_pbin {op : BinOp} {t : TypeId} {x y r : Value} (h : pbin op x y = some r) (w : World) : (binOp op t x y).run P w = .ok r w := by
  unfold pbin at h
  split at h
  · rename_i k a k' b
    split at h
    · cases h
    · rename_i hb
      cases h
      simp [binOp, Op.shift, hb]
  · rename_i k a k' b
    split at h
    · cases h
    · rename_i hb
      cases h
      simp [binOp, Op.shift, hb]
  · rename_i k a k' b _ _
    split at h
    · rename_i hk
      subst hk
      cases op <;> simp at h <;> first
        | (obtain ⟨hb, rfl⟩ := h; simp [binOp, Op.intDiv, hb]; done)
        | (subst h; simp [binOp, Op.intArith, Op.intCmp, Op.intBits]; done)
    · cases h
  · rename_i a b
    cases op <;> simp at h
    case add =>
      obtain ⟨hb, rfl⟩ := h
      have h2 : ¬ (9223372036854775807 < (a.size : Int) + (b.size : Int)) := by omega
      simp [binOp, Op.stringOp, IntKind.max, IntKind.signed, IntKind.bits, h2]
    all_goals (subst h; simp [binOp, Op.stringOp])
  · cases h
theorem ok_bin {op : BinOp} {t u : TypeId} {x y : Operand} (ho : o.op = .binOp op t x y u) (hf : a.defers = []) (h : Sim w0 mu N s a.tmps w phi ro) (hd : ∀ k, o.dst = some k → k < N)
    (hK : aexec P own (.bin op (opd x) (opd y)) o.dst s K) : o.wp P a w (After w0 mu N K) Q := by
  obtain ⟨p, q, r, hp, hq, hr, hK⟩ := hK
  have hx := h.ev x
  have hy := h.ev y
  rw [hp] at hx
  rw [hq] at hy
  simp only [SimV] at hx hy
  have hg : (eqGuard op t x y p q).run P w = .ok () w := by
    unfold pbin at hr
    split at hr
    · unfold eqGuard; split <;> simp
    · unfold eqGuard; split <;> simp
    · unfold eqGuard; split <;> simp
    · unfold eqGuard; split <;> simp
    · cases hr
  refine wp_value (v := r) (w' := w) ?_ (After.put hf h hd (by simp [SimV]) hK)
  simp only [execOp, ho, hx, hy, Sem.run_bind, hg, Result.andThen_ok, run_pbin hr, Sem.run_pure]
theorem run_equal_bool {t : TypeId} (ht : P.underlying t = some .bool) (p q : Bool) (w : World) : (Op.equal t (.bool p) (.bool q)).run P w = .ok (p == q) w := by
  show (Op.equalIn (9999 + 1) t (.bool p) (.bool q)).run P w = _
  rw [Op.equalIn]
  simp [run_underlying ht]
theorem ok_beq {op : BinOp} {ne : Bool} {t u : TypeId} {x y : Operand} (ho : o.op = .binOp op t x y u) (hop : op = if ne then .neq else .eql) (ht : P.underlying t = some .bool)
    (hf : a.defers = []) (h : Sim w0 mu N s a.tmps w phi ro) (hd : ∀ k, o.dst = some k → k < N)
    (hK : aexec P own (.beq ne (opd x) (opd y)) o.dst s K) : o.wp P a w (After w0 mu N K) Q := by
  obtain ⟨p, q, hp, hq, hK⟩ := hK
  have hx := h.ev x
  have hy := h.ev y
  rw [hp] at hx
  rw [hq] at hy
  simp only [SimV] at hx hy
  have hg : (eqGuard op t x y (.bool p) (.bool q)).run P w = .ok () w := by unfold eqGuard; split <;> simp
  have hb : (binOp op t (.bool p) (.bool q)).run P w = .ok (.bool (ne ^^ (p == q))) w := by
    cases ne
    · simp only [Bool.false_eq_true, if_false] at hop
      subst hop
      show ((do pure (.bool (← Op.equal t (.bool p) (.bool q))) : Sem Value)).run P w = _
      rw [Sem.run_bind, run_equal_bool ht]
      simp
    · simp only [if_true] at hop
      subst hop
      show ((do pure (.bool (!(← Op.equal t (.bool p) (.bool q)))) : Sem Value)).run P w = _
      rw [Sem.run_bind, run_equal_bool ht]
      simp
  refine wp_value (v := .bool (ne ^^ (p == q))) (w' := w) ?_ (After.put hf h hd (by simp [SimV]) hK)
  simp only [execOp, ho, hx, hy, Sem.run_bind, hg, Result.andThen_ok, hb, Sem.run_pure]
theorem ok_len {x : Operand} {t e : TypeId} (ho : o.op = .call { callee := .builtin .len, args := #[x], argTypes := #[t] }) (ht : P.underlying t = some (.slice e))
    (hf : a.defers = []) (h : Sim w0 mu N s a.tmps w phi ro) (hd : ∀ k, o.dst = some k → k < N)
    (hK : aexec P own (.len (opd x)) o.dst s K) : o.wp P a w (After w0 mu N K) Q := by
  have hx := h.ev x
  have go : ∀ (n : Nat) (b : Option Addr) (c : Nat), a.eval x = .slice b n c → K (s.put o.dst (.v (.int .i64 n))) → o.wp P a w (After w0 mu N K) Q := by
    intro n b c hv hK
    refine wp_value (v := .int .i64 n) (w' := w) ?_ (After.put hf h hd (by simp [SimV]) hK)
    simp [execOp, ho, resolve, invoke, builtin, hv, Builtin.len_, run_underlying ht, goInt]
  rcases hK with ⟨r, z, off, n, he, hK⟩ | ⟨fr, z, cs, n, he, hK⟩ | ⟨ad, n, c, he, hK⟩
  · rw [he] at hx
    simp only [SimV] at hx
    rcases hx.2.2 with ⟨_, _, rfl, hy⟩ | ⟨b, o', cap, cur, e', _, hy, _⟩
    · exact go 0 _ _ hy hK
    · exact go n _ _ hy hK
  · rw [he] at hx
    simp only [SimV] at hx
    rcases hx with ⟨rfl, _, ad, c, hy, _⟩ | ⟨b, o', cap, cur, e', fz, hy, _⟩
    · exact go 0 _ _ hy hK
    · exact go n _ _ hy hK
  · rw [he] at hx
    simp only [SimV] at hx
    exact go n _ _ hx hK
theorem run_equal_nil {t e : TypeId} (ht : P.underlying t = some (.slice e)) (b : Option Addr) (n c : Nat) (w : World) : (Op.equal t (.slice b n c) (.slice none 0 0)).run P w = .ok b.isNone w := by
  show (Op.equalIn (9999 + 1) t (.slice b n c) (.slice none 0 0)).run P w = _
  rw [Op.equalIn]
  cases b <;> simp [run_underlying ht]
theorem ok_isnil {op : BinOp} {ne : Bool} {t u e : TypeId} {x : Operand} (ho : o.op = .binOp op t x (.const (.slice none 0 0)) u) (hop : op = if ne then .neq else .eql) (ht : P.underlying t = some (.slice e))
    (hf : a.defers = []) (h : Sim w0 mu N s a.tmps w phi ro) (hd : ∀ k, o.dst = some k → k < N)
    (hK : aexec P own (.isnil ne (opd x)) o.dst s K) : o.wp P a w (After w0 mu N K) Q := by
  have hx := h.ev x
  have hval : ∃ b n c, a.eval x = .slice b n c ∧ K (s.put o.dst (.v (.bool (ne ^^ b.isNone)))) := by
    rcases hK with ⟨c, he, hK⟩ | ⟨n, hv, hK1, hK2⟩
    · rw [he] at hx
      simp only [SimV] at hx
      exact ⟨_, _, _, hx, by simpa using hK⟩
    have hv2 : ∃ b c, a.eval x = .slice b n c ∧ (0 < n → b.isNone = false) := by
      rcases hv with ⟨r, z, off, he⟩ | ⟨fr, z, cs, he⟩ | ⟨rfl, c, he⟩
      · rw [he] at hx
        simp only [SimV] at hx
        rcases hx.2.2 with ⟨_, _, rfl, hy⟩ | ⟨b, o', cap, cur, e', _, hy, _⟩
        · exact ⟨_, _, hy, fun hn => by omega⟩
        · exact ⟨_, _, hy, fun _ => rfl⟩
      · rw [he] at hx
        simp only [SimV] at hx
        rcases hx with ⟨rfl, _, ad, c, hy, _⟩ | ⟨b, o', cap, cur, e', fz, hy, _⟩
        · exact ⟨_, _, hy, fun hn => by omega⟩
        · exact ⟨_, _, hy, fun _ => rfl⟩
      · rw [he] at hx
        simp only [SimV] at hx
        exact ⟨_, _, hx, fun hn => by omega⟩
    obtain ⟨b, c, hy, hn⟩ := hv2
    refine ⟨b, n, c, hy, ?_⟩
    by_cases h0 : n = 0
    · exact hK2 h0 _
    · rw [hn (by omega), Bool.xor_false]
      exact hK1 (by omega)
  obtain ⟨b, n, c, hy, hK⟩ := hval
  have hg : (eqGuard op t x (.const (.slice none 0 0)) (.slice b n c) (.slice none 0 0)).run P w = .ok () w := by unfold eqGuard; split <;> simp
  have hb : (binOp op t (.slice b n c) (.slice none 0 0)).run P w = .ok (.bool (ne ^^ b.isNone)) w := by
    cases ne
    · simp only [Bool.false_eq_true, if_false] at hop
      subst hop
      show ((do pure (.bool (← Op.equal t (.slice b n c) (.slice none 0 0))) : Sem Value)).run P w = _
      rw [Sem.run_bind, run_equal_nil ht]
      simp
    · simp only [if_true] at hop
      subst hop
      show ((do pure (.bool (!(← Op.equal t (.slice b n c) (.slice none 0 0)))) : Sem Value)).run P w = _
      rw [Sem.run_bind, run_equal_nil ht]
      simp
  have he2 : a.eval (.const (.slice none 0 0)) = .slice none 0 0 := rfl
  refine wp_value (v := .bool (ne ^^ b.isNone)) (w' := w) ?_ (After.put hf h hd (by simp [SimV]) hK)
  simp only [execOp, ho, hy, he2, Sem.run_bind, hg, Result.andThen_ok, hb, Sem.run_pure]
theorem ok_slen {x : Operand} {t : TypeId} (ho : o.op = .call { callee := .builtin .len, args := #[x], argTypes := #[t] }) (ht : P.underlying t = some .string)
    (hf : a.defers = []) (h : Sim w0 mu N s a.tmps w phi ro) (hd : ∀ k, o.dst = some k → k < N)
    (hK : aexec P own (.slen (opd x)) o.dst s K) : o.wp P a w (After w0 mu N K) Q := by
  have hx := h.ev x
  obtain ⟨b, he, hK⟩ := hK
  rw [he] at hx
  simp only [SimV] at hx
  refine wp_value (v := .int .i64 b.size) (w' := w) ?_ (After.put hf h hd (by simp [SimV]) hK)
  simp [execOp, ho, resolve, invoke, builtin, hx, Builtin.len_, run_underlying ht, goInt]
theorem ok_capn {x : Operand} {t e : TypeId} (ho : o.op = .call { callee := .builtin .cap, args := #[x], argTypes := #[t] }) (ht : P.underlying t = some (.slice e))
    (hf : a.defers = []) (h : Sim w0 mu N s a.tmps w phi ro) (hd : ∀ k, o.dst = some k → k < N)
    (hK : aexec P own (.capn (opd x)) o.dst s K) : o.wp P a w (After w0 mu N K) Q := by
  have hx := h.ev x
  obtain ⟨b, n, c, he, hK⟩ := hK
  rw [he] at hx
  simp only [SimV] at hx
  refine wp_value (v := .int .i64 (c : Nat)) (w' := w) ?_ (After.put hf h hd (by simp [SimV]) hK)
  simp [execOp, ho, resolve, invoke, builtin, hx, Builtin.cap_, run_underlying ht, goInt]
theorem run_idx_slice {t e : TypeId} {inf : TypeInfo} (ht : P.underlying t = some (.slice e)) (hi : P.info? e = some inf) (b o' n c : Nat) (k : IntKind) (j : Int) (h0 : 0 ≤ j) (h1 : j < n) (w : World) :
    (Instr.indexAt t (.slice (some ⟨b, o', none⟩) n c) (.int k j)).run P w = .ok (.pointer (some ⟨b, o' + j.toNat * inf.size, none⟩)) w := by
  simp [Instr.indexAt, asIntOf, run_underlying ht, sizeOf, typeInfo, hi, h0, h1, addr_add]
theorem ro_more {w0 w : World} {mu : Nat → Option Nat} {N : Nat} {s : AS} {tm : Array Value} {phi : Nat → Option Nat} {ro : Nat → Prop} (h : Sim w0 mu N s tm w phi ro) {b : Nat} (hb : b < w.heap.size) (hno : ∀ r c, s.hp r = some c → phi r ≠ some b) : Sim w0 mu N s tm w phi (fun q => ro q ∨ q = b) := by
  have hle : (ctx w0 w ro phi s).Le (ctx w0 w (fun q => ro q ∨ q = b) phi s) := Ctx.le_more (More.refl w) h.rob _ fun q hq => .inl hq
  refine { h with rob := fun q hq => ?_, liv := fun r c hc => ?_, tms := fun t => SimV.mono _ _ _ _ hle (h.tms t) }
  · rcases hq with hq | rfl
    · exact h.rob q hq
    · exact hb
  · have hn := hno r c hc
    rcases h.liv r c hc with h1 | ⟨b', cur, e, h1, h2, h3, h4, h5⟩ | ⟨b', o, h1, h2, h3, h4, h5, h6⟩
    · exact .inl h1
    · refine .inr (.inl ⟨b', cur, e, h1, h2, fun hq => ?_, h4, h5.mono hle⟩)
      rcases hq with hq | rfl
      · exact h3 hq
      · exact hn h1
    · refine .inr (.inr ⟨b', o, h1, h2, h3, h4, fun hq => ?_, h6⟩)
      rcases hq with hq | rfl
      · exact h5 hq
      · exact hn h2
theorem ok_idx {x i : Operand} {t e : TypeId} {inf : TypeInfo} (ho : o.op = .indexAddr t x i) (ht : P.underlying t = some (.slice e)) (hi : P.info? e = some inf)
    (hf : a.defers = []) (h : Sim w0 mu N s a.tmps w phi ro) (hd : ∀ k, o.dst = some k → k < N)
    (hK : aexec P own (.idx inf.size (opd x) (opd i)) o.dst s K) : o.wp P a w (After w0 mu N K) Q := by
  obtain ⟨k, j, hj, h0, hK⟩ := hK
  have hx := h.ev x
  have hij := h.ev i
  rw [hj] at hij
  simp only [SimV] at hij
  rcases hK with ⟨r, off, n, he, h1, hK⟩ | ⟨fr, cs, n, he, h1, hK⟩ | ⟨v, L, he, hb, h1, hz, hK⟩
  · rw [he] at hx
    simp only [SimV] at hx
    obtain ⟨hc, hl, hx⟩ := hx
    rcases hx with ⟨_, _, rfl, _⟩ | ⟨b, o', cap, cur, e', hb, hy, hcell, hoff, hcap⟩
    · omega
    · have hoff' : o' = off := by
        rcases hoff with h2 | h2
        · exact h2
        · omega
      subst hoff'
      refine wp_value (v := .pointer (some ⟨b, o' + j.toNat * inf.size, none⟩)) (w' := w) ?_ (After.put hf h hd ?_ hK)
      · simp [execOp, ho, hy, hij, run_idx_slice ht hi _ _ _ _ _ _ h0 h1]
      · simp only [SimV]
        exact ⟨hc, hl, b, hb, rfl, cur, e', hcell⟩
  · rw [he] at hx
    simp only [SimV] at hx
    rcases hx with ⟨rfl, _, _⟩ | ⟨b, o', cap, cur, e', fz, hy, hcell, hro, hlen, _, _, hs⟩
    · omega
    · refine wp_value (v := .pointer (some ⟨b, o' + j.toNat * inf.size, none⟩)) (w' := w) ?_ (After.put hf h hd ?_ hK)
      · simp [execOp, ho, hy, hij, run_idx_slice ht hi _ _ _ _ _ _ h0 h1]
      · simp only [SimV]
        refine ⟨b, _, cur, e', fz, rfl, hcell, hro, ?_⟩
        have := hs.drop (j.toNat * inf.size)
        rwa [List.drop_drop] at this
  · rw [he] at hx
    simp only [SimV] at hx
    rcases hb with ⟨rfl, _⟩ | ⟨b, o', cap, cur, hb, hm, hle, hs⟩
    · simp at h1; omega
    · have hbg : b ∈ goodB := List.mem_map.2 ⟨_, hm, rfl⟩
      obtain ⟨cur', e', fz, h2, h3⟩ := h.goodW b hbg
      have hcc : cur = cur' := h3 _ hm rfl
      subst hcc
      have h4 := ro_more h (lt_of_get h2) (fun r c hc hp => h.regGood hc hp hbg)
      have hy := hx.trans hb
      refine wp_value (v := .pointer (some ⟨b, o' + j.toNat * inf.size, none⟩)) (w' := w) ?_ (After.put hf h4 hd ?_ hK)
      · simp [execOp, ho, hy, hij, run_idx_slice ht hi _ _ _ _ _ _ h0 h1]
      · simp only [SimV]
        refine ⟨b, _, cur, e', fz, rfl, h2, .inr rfl, ?_⟩
        have := (hs (ctx w0 w (fun q => ro q ∨ q = b) phi s).out).drop (j.toNat * inf.size)
        rw [hz, Nat.mul_one] at this ⊢
        rwa [List.drop_drop] at this
theorem run_idx_array {t e : TypeId} {m : Nat} {inf : TypeInfo} (ht : P.underlying t = some (.array m e)) (hi : P.info? e = some inf) (b o' : Nat) (k : IntKind) (j : Int) (h0 : 0 ≤ j) (h1 : j < m) (w : World) :
    (Instr.indexAt t (.pointer (some ⟨b, o', none⟩)) (.int k j)).run P w = .ok (.pointer (some ⟨b, o' + j.toNat * inf.size, none⟩)) w := by
  simp [Instr.indexAt, asIntOf, run_underlying ht, sizeOf, typeInfo, hi, h0, h1, addr_add, Instr.sureAddr]
theorem ok_arr {x i : Operand} {t e : TypeId} {m : Nat} {inf : TypeInfo} (ho : o.op = .indexAddr t x i) (ht : P.underlying t = some (.array m e)) (hi : P.info? e = some inf)
    (hf : a.defers = []) (h : Sim w0 mu N s a.tmps w phi ro) (hd : ∀ k, o.dst = some k → k < N)
    (hK : aexec P own (.arr inf.size m (opd x) (opd i)) o.dst s K) : o.wp P a w (After w0 mu N K) Q := by
  obtain ⟨k, j, hj, h0, h1, hK⟩ := hK
  have hx := h.ev x
  have hij := h.ev i
  rw [hj] at hij
  simp only [SimV] at hij
  rcases hK with ⟨r, off, he, hK⟩ | ⟨cs, he, hK⟩
  · rw [he] at hx
    simp only [SimV] at hx
    obtain ⟨hc, hl, b, hb, hy, hcells⟩ := hx
    refine wp_value (v := .pointer (some ⟨b, off + j.toNat * inf.size, none⟩)) (w' := w) ?_ (After.put hf h hd ?_ hK)
    · simp [execOp, ho, hy, hij, run_idx_array ht hi _ _ _ _ h0 h1]
    · simp only [SimV]
      exact ⟨hc, hl, b, hb, rfl, hcells⟩
  · rw [he] at hx
    simp only [SimV] at hx
    obtain ⟨b, o', cur, e', fz, hy, hcell, hro, hs⟩ := hx
    refine wp_value (v := .pointer (some ⟨b, o' + j.toNat * inf.size, none⟩)) (w' := w) ?_ (After.put hf h hd ?_ hK)
    · simp [execOp, ho, hy, hij, run_idx_array ht hi _ _ _ _ h0 h1]
    · simp only [SimV]
      refine ⟨b, _, cur, e', fz, rfl, hcell, hro, ?_⟩
      have := hs.drop (j.toNat * inf.size)
      rwa [List.drop_drop] at this
theorem ok_ext {x : Operand} {i : Nat} (ho : o.op = .extract x i) (hf : a.defers = []) (h : Sim w0 mu N s a.tmps w phi ro) (hd : ∀ k, o.dst = some k → k < N)
    (hK : aexec P own (.ext (opd x) i) o.dst s K) : o.wp P a w (After w0 mu N K) Q := by
  obtain ⟨l, c, he, hi, hK⟩ := hK
  have hx := h.ev x
  rw [he] at hx
  simp only [SimV] at hx
  obtain ⟨vs, hv, _, hs⟩ := hx
  obtain ⟨y, hy, hsy⟩ := hs.get hi
  refine wp_value (v := y) (w' := w) ?_ (After.put hf h hd hsy hK)
  have hy' : vs[i]? = some y := by simpa using hy
  simp [execOp, ho, hv, Instr.extract, hy']
theorem ok_fa {x : Operand} {t : TypeId} {f : Nat} {fields : Array Field} {fd : Field} {inf : TypeInfo} (ho : o.op = .fieldAddr t x f) (ht : P.underlying t = some (.struct fields)) (hfd : fields[f]? = some fd)
    (hi : P.info? fd.type = some inf) (hz : inf.size ≠ 0)
    (hf : a.defers = []) (h : Sim w0 mu N s a.tmps w phi ro) (hd : ∀ k, o.dst = some k → k < N)
    (hK : aexec P own (.fa fd.offset (opd x)) o.dst s K) : o.wp P a w (After w0 mu N K) Q := by
  have hx := h.ev x
  have hrun : ∀ b o', (Instr.fieldAt t (.pointer (some ⟨b, o', none⟩)) f).run P w = .ok (.pointer (some ⟨b, o' + fd.offset, none⟩)) w := by
    intro b o'
    simp [Instr.fieldAt, run_underlying ht, hfd, Instr.sureAddr, fieldPlace, sizeOf, typeInfo, hi, hz, addr_add]
  rcases hK with ⟨r, off, he, hK⟩ | ⟨cs, he, hK⟩
  · rw [he] at hx
    simp only [SimV] at hx
    obtain ⟨hc, hl, b, hb, hy, hcells⟩ := hx
    refine wp_value (v := .pointer (some ⟨b, off + fd.offset, none⟩)) (w' := w) ?_ (After.put hf h hd ?_ hK)
    · simp [execOp, ho, hy, hrun]
    · simp only [SimV]
      exact ⟨hc, hl, b, hb, rfl, hcells⟩
  · rw [he] at hx
    simp only [SimV] at hx
    obtain ⟨b, o', cur, e', fz, hy, hcell, hro, hs⟩ := hx
    refine wp_value (v := .pointer (some ⟨b, o' + fd.offset, none⟩)) (w' := w) ?_ (After.put hf h hd ?_ hK)
    · simp [execOp, ho, hy, hrun]
    · simp only [SimV]
      refine ⟨b, _, cur, e', fz, rfl, hcell, hro, ?_⟩
      have := hs.drop fd.offset
      rwa [List.drop_drop] at this
end Go.Am
namespace Go.Am
variable [Go.Am.CodeBlk]
variable {P : Program} {w0 w : World} {mu : Nat → Option Nat} {N : Nat} {s : AS} {o : Oper} {a : Act} {phi : Nat → Option Nat} {ro : Nat → Prop} {K : AS → Prop} {Q : Exit → Act → World → Prop} {own : Bool}
theorem wp_skip_op {w' : World} {R : Act → World → Prop}
    (hr : (execOp a.eval o).run P w = .ok .skip w') (h : R (a.put o.dst undef) w') : o.wp P a w R Q := by
  unfold Oper.wp
  rw [hr]
  exact h
theorem SimR.get {c : Bool × List AV} {C : Ctx} {ys : List Value} (h : SimR c C ys) {i : Nat} {x : AV} (hi : c.2[i]? = some x) : ∃ y, ys[i]? = some y ∧ SimV x C y := by
  unfold SimR at h
  split at h
  · obtain ⟨y, h1, h2⟩ := h.get hi
    exact ⟨y, h1, SimV.mono x C.out C y ⟨fun _ hb => ⟨hb, rfl⟩, Nat.le_refl _, fun e => by simp [Ctx.out] at e, fun e => by simp [Ctx.out] at e, fun e => by simp [Ctx.out] at e⟩ h2⟩
  · exact h.get hi
theorem out_le (C : Ctx) : C.out.Le C := ⟨fun _ hb => ⟨hb, rfl⟩, Nat.le_refl _, fun e => by simp [Ctx.out] at e, fun e => by simp [Ctx.out] at e, fun e => by simp [Ctx.out] at e⟩
theorem SimR.list {c : Bool × List AV} {C : Ctx} {ys : List Value} (h : SimR c C ys) : SimL c.2 C ys := by
  unfold SimR at h
  split at h
  · exact SimL.mono _ _ _ _ (out_le C) h
  · exact h
/-- What a region's cell is, in the model. -/
theorem Sim.cell (h : Sim w0 mu N s a.tmps w phi ro) {r b : Nat} {fl : Bool} {cs : List AV} (hr : s.hp r = some (fl, cs)) (hb : phi r = some b) {cur0 : Array Value} {e0 : TypeId} (hc : w.heap[b]? = some (.cells cur0 e0 (0, 0))) :
    ∃ cur e, w.heap[b]? = some (.cells cur e (0, 0)) ∧ SimR (fl, cs) (ctx w0 w ro phi s) cur.toList ∧ ¬ ro b ∧ (r < pbase ∧ Mine w0 mu b ∨ pbase ≤ r ∧ mu r = some b) := by
  rcases h.liv r _ hr with ⟨h1, _⟩ | ⟨b', cur, e, h1, h2, h3, h4, h5⟩ | ⟨b', o, _, h1, h2, h3, _⟩
  · simp [h1] at hb
  · rw [hb] at h1; cases h1; exact ⟨cur, e, h2, h5, h3, h4⟩
  · rw [hb] at h1; cases h1; rw [hc] at h2; cases h2; simp [isCells] at h3
theorem run_load_one {t : TypeId} {d : TypeDesc} (ht : P.underlying t = some d) (hd : ∀ fs, d ≠ .struct fs) (hd' : ∀ n e, d ≠ .array n e) {b off : Nat} {cur : Array Value} {e : TypeId} {fz : Nat × Nat} {y : Value}
    (hc : w.heap[b]? = some (.cells cur e fz)) (hy : cur[off]? = some y) : (Instr.loadAt t (.pointer (some ⟨b, off, none⟩))).run P w = .ok y w := by
  have hag : (isAgg t).run P w = .ok false w := by
    unfold isAgg
    rw [Sem.run_bind, run_underlying ht]
    cases d <;> simp_all
  have hcell : w.cell? ⟨b, off, none⟩ = some y := by rw [cell_of_row w b off cur e fz hc]; exact hy
  simp [Instr.loadAt, Instr.sureAddr, loadVar, hag, hcell]
theorem shapeT_none {t : TypeId} (h : shapeT P t = some none) : ∃ d, P.underlying t = some d ∧ (∀ fs, d ≠ .struct fs) ∧ (∀ n e, d ≠ .array n e) := by
  unfold shapeT at h
  split at h
  · simp at h
  · simp at h
  · rename_i d i h1 h2 h3 h4
    exact ⟨d, h3, fun fs e => h1 fs e, fun n el e => h2 n el e⟩
  · cases h
theorem shapeT_some {t : TypeId} {k : Nat} (h : shapeT P t = some (some k)) : ∃ d i, P.underlying t = some d ∧ P.info? t = some i ∧ i.size = k ∧ ((∃ fs, d = .struct fs) ∨ (∃ n e, d = .array n e)) := by
  unfold shapeT at h
  split at h
  · rename_i fs i h1 h2; simp at h; exact ⟨_, i, h1, h2, h, .inl ⟨fs, rfl⟩⟩
  · rename_i n e i h1 h2; simp at h; exact ⟨_, i, h1, h2, h, .inr ⟨n, e, rfl⟩⟩
  · simp at h
  · cases h
theorem run_load_agg {t : TypeId} {d : TypeDesc} {i : TypeInfo} (ht : P.underlying t = some d) (hi : P.info? t = some i) (hd : (∃ fs, d = .struct fs) ∨ (∃ n e, d = .array n e)) {b off : Nat} {cur : Array Value} {e : TypeId} {fz : Nat × Nat}
    (hc : w.heap[b]? = some (.cells cur e fz)) (hle : off + i.size ≤ cur.size) : (Instr.loadAt t (.pointer (some ⟨b, off, none⟩))).run P w = .ok (.agg ((cur.toList.drop off).take i.size).toArray) w := by
  have hag : (isAgg t).run P w = .ok true w := by
    unfold isAgg
    rw [Sem.run_bind, run_underlying ht]
    rcases hd with ⟨fs, rfl⟩ | ⟨n, el, rfl⟩ <;> simp
  have hl : ((cur.toList.drop off).take i.size).length = i.size := by simp; omega
  have hcells : ∀ (j : Nat) v, ((cur.toList.drop off).take i.size)[j]? = some v → w.cell? ((⟨b, off, none⟩ : Addr).add j) = some v := by
    intro j v hj
    rw [addr_add, cell_of_row w b (off + j) cur e fz hc]
    rw [List.getElem?_take] at hj
    split at hj
    · rw [List.getElem?_drop] at hj
      simpa using hj
    · cases hj
  have hload := run_loadCells_list (P := P) w ⟨b, off, none⟩ _ hcells
  rw [hl] at hload
  simp [Instr.loadAt, Instr.sureAddr, loadVar, hag, sizeOf, typeInfo, hi, hload]
theorem ok_ld {x : Operand} {t : TypeId} {k : Option Nat} (ho : o.op = .load t x) (hk : shapeT P t = some k) (hf : a.defers = []) (h : Sim w0 mu N s a.tmps w phi ro) (hd : ∀ k, o.dst = some k → k < N)
    (hK : aexec P own (.ld k (opd x)) o.dst s K) : o.wp P a w (After w0 mu N K) Q := by
  have hx := h.ev x
  cases k with
  | none =>
    obtain ⟨d, ht, hd1, hd2⟩ := shapeT_none hk
    rcases hK with ⟨r, off, fl, cs, c, he, hr, hc, hK⟩ | ⟨cs, c, he, hc, hK⟩
    · rw [he] at hx
      simp only [SimV] at hx
      obtain ⟨_, _, b, hb, hy, cur0, e0, hcell0⟩ := hx
      obtain ⟨cur, e, hcell, hsim, _⟩ := h.cell hr hb hcell0
      obtain ⟨y, hy1, hy2⟩ := hsim.get hc
      refine wp_value (v := y) (w' := w) ?_ (After.put hf h hd hy2 hK)
      simp [execOp, ho, hy, run_load_one ht hd1 hd2 hcell (by simpa using hy1)]
    · rw [he] at hx
      simp only [SimV] at hx
      obtain ⟨b, o', cur, e, fz, hy, hcell, _, hs⟩ := hx
      obtain ⟨y, hy1, hy2⟩ := hs.get hc
      refine wp_value (v := y) (w' := w) ?_ (After.put hf h hd (SimV.mono _ _ _ _ (out_le _) hy2) hK)
      have hy3 : cur[o']? = some y := by simpa using hy1
      simp [execOp, ho, hy, run_load_one ht hd1 hd2 hcell hy3]
  | some k =>
    obtain ⟨d, i, ht, hi, rfl, hdd⟩ := shapeT_some hk
    rcases hK with ⟨r, off, fl, cs, he, hr, hle, hK⟩ | ⟨cs, he, hle, hK⟩
    · rw [he] at hx
      simp only [SimV] at hx
      obtain ⟨_, _, b, hb, hy, cur0, e0, hcell0⟩ := hx
      obtain ⟨cur, e, hcell, hsim, _⟩ := h.cell hr hb hcell0
      have hl := hsim.list
      have hlen := hl.length_le
      simp only [Array.length_toList] at hlen
      refine wp_value (v := .agg ((cur.toList.drop off).take i.size).toArray) (w' := w) ?_ (After.put hf h hd ?_ hK)
      · have hrun := run_load_agg (P := P) (w := w) (b := b) (off := off) ht hi hdd hcell (by omega)
        simp [execOp, ho, hy, hrun]
      · simp only [SimV]
        refine ⟨_, rfl, by simp; omega, ?_⟩
        exact ((hl.drop off).take i.size).shorter i.size (by simp; omega)
    · rw [he] at hx
      simp only [SimV] at hx
      obtain ⟨b, o', cur, e, fz, hy, hcell, _, hs⟩ := hx
      have hlen := hs.length_le
      have hcell' : w.heap[b]? = some (.cells cur e fz) := hcell
      simp only [List.length_drop, Array.length_toList] at hlen
      refine wp_value (v := .agg ((cur.toList.drop o').take i.size).toArray) (w' := w) ?_ (After.put hf h hd ?_ hK)
      · by_cases hz : i.size = 0
        · by_cases hoc : o' ≤ cur.size
          · have hrun := run_load_agg (P := P) (w := w) (b := b) (off := o') ht hi hdd hcell' (by omega)
            simp [execOp, ho, hy, hrun]
          · have hag : (isAgg t).run P w = .ok true w := by
              unfold isAgg
              rw [Sem.run_bind, run_underlying ht]
              rcases hdd with ⟨fs, rfl⟩ | ⟨n, el, rfl⟩ <;> simp
            simp [execOp, ho, hy, Instr.loadAt, Instr.sureAddr, loadVar, hag, sizeOf, typeInfo, hi, hz, loadCells, loadCellsFrom]
        · have hrun := run_load_agg (P := P) (w := w) (b := b) (off := o') ht hi hdd hcell' (by omega)
          simp [execOp, ho, hy, hrun]
      · simp only [SimV]
        refine ⟨_, rfl, by simp; omega, ?_⟩
        exact SimL.mono _ _ _ _ (out_le _) ((hs.take i.size).shorter i.size (by simp; omega))
theorem cellOk_one {fl : Bool} {x : AV} {C : Ctx} {y : Value} (h : cellOk fl x = true) (hs : SimV x C y) : y.oneCell' = true := by
  cases x <;> simp only [cellOk, Bool.false_eq_true] at h
  · simp only [SimV] at hs; subst hs; exact h
  · simp only [SimV] at hs
    rcases hs with ⟨_, _, _, _, hy, _⟩ | ⟨_, _, _, _, _, _, hy, _⟩ <;> (subst hy; rfl)
  · simp only [SimV] at hs
    obtain ⟨_, _, _, _, _, hy, _⟩ := hs
    subst hy; rfl
  · simp only [SimV] at hs
    rcases hs.2.2 with ⟨_, _, _, hy⟩ | ⟨_, _, _, _, _, _, hy, _⟩ <;> (subst hy; rfl)
  · simp only [SimV] at hs
    obtain ⟨_, _, _, _, hy, _⟩ := hs
    subst hy; rfl
  · simp only [SimV] at hs
    obtain ⟨_, _, _, _, hy⟩ := hs
    subst hy; rfl
  · simp only [SimV] at hs
    obtain ⟨_, _, hy, _⟩ := hs
    subst hy; rfl
  · simp only [SimV] at hs
    obtain ⟨_, hy, _⟩ := hs
    subst hy; rfl
theorem cellOk_sim {fl : Bool} {x : AV} {C : Ctx} {y : Value} (h : cellOk fl x = true) (hs : SimV x C y) : SimV x (if fl then C.out else C) y := by
  cases fl
  · exact hs
  · cases x <;> simp only [cellOk, Bool.false_eq_true, Bool.not_true] at h <;> simpa [SimV, Ctx.out] using hs
theorem cellOk_simL {fl : Bool} {C : Ctx} : ∀ {l : List AV} {ys : List Value}, l.all (cellOk fl) = true → SimL l C ys → SimL l (if fl then C.out else C) ys
  | [], _, _, _ => by simp [SimL]
  | _ :: _, [], _, h => by simp [SimL] at h
  | x :: l, y :: ys, h, hs => by
    simp only [List.all_cons, Bool.and_eq_true, SimL] at h hs ⊢
    exact ⟨cellOk_sim h.1 hs.1, cellOk_simL h.2 hs.2⟩
theorem cellOk_oneL {fl : Bool} {C : Ctx} : ∀ {l : List AV} {ys : List Value}, l.all (cellOk fl) = true → SimL l C ys → ys.length = l.length → ∀ v ∈ ys, v.oneCell' = true
  | [], ys, _, _, hl => by
    have : ys = [] := List.eq_nil_of_length_eq_zero (by simpa using hl)
    subst this; simp
  | _ :: _, [], _, h, _ => by simp [SimL] at h
  | x :: l, y :: ys, h, hs, hl => by
    simp only [List.all_cons, Bool.and_eq_true, SimL] at h hs
    intro v hv
    rcases List.mem_cons.1 hv with rfl | hv
    · exact cellOk_one h.1 hs.1
    · exact cellOk_oneL h.2 hs.2 (by simpa using hl) v hv
theorem run_store_cells {t : TypeId} {i : TypeInfo} (hi : P.info? t = some i) {y : Value} (hsz : y.cells.size = i.size) {b off : Nat} {cur : Array Value} {e : TypeId} (hc : w.heap[b]? = some (.cells cur e (0, 0)))
    (hle : off + y.cells.size ≤ cur.size) (h1 : ∀ v ∈ y.cells.toList, v.oneCell' = true) :
    (Instr.storeAt t (.pointer (some ⟨b, off, none⟩)) y).run P w = .ok () (w.setRow b (cur.toList.take off ++ y.cells.toList ++ cur.toList.drop (off + y.cells.size)).toArray) := by
  have hst := run_storeCells_at P b off e y.cells.toList 0 cur w hc (by simpa using hle) h1
  simp only [Nat.add_zero, Array.length_toList] at hst
  simp [Instr.storeAt, Instr.sureAddr, storeVar, sizeOf, typeInfo, hi, hsz, hst]
theorem ok_st {x y : Operand} {t : TypeId} {i : TypeInfo} {k : Nat} (ho : o.op = .store t x y) (hi : P.info? t = some i) (hk : i.size = k)
    (hf : a.defers = []) (h : Sim w0 mu N s a.tmps w phi ro) (hdst : o.dst = none)
    (hK : aexec P own (.st k (opd x) (opd y)) o.dst s K) : o.wp P a w (After w0 mu N K) Q := by
  subst hk
  obtain ⟨r, off, fl, cs, he, hr, hK⟩ := hK
  have hx := h.ev x
  have hy := h.ev y
  rw [he] at hx
  simp only [SimV] at hx
  obtain ⟨_, _, b, hb, hxy, cur0, e0, hcell0⟩ := hx
  obtain ⟨cur, e, hcell, hsim, _⟩ := h.cell hr hb hcell0
  have hlen := hsim.list.length_le
  simp only [Array.length_toList] at hlen
  have fin : ∀ (ys : List Value) (cs' : List AV), (a.eval y).cells.toList = ys → ys.length = i.size → off + ys.length ≤ cur.size → (∀ v ∈ ys, v.oneCell' = true) →
      SimL cs' (if fl then (ctx w0 w ro phi s).out else ctx w0 w ro phi s) (cur.toList.take off ++ ys ++ cur.toList.drop (off + ys.length)) → K (s.mem r (fl, cs')) → o.wp P a w (After w0 mu N K) Q := by
    intro ys cs' hys hl hle h1 hs hK
    have hsz : (a.eval y).cells.size = ys.length := by rw [← hys, Array.length_toList]
    have hrun := run_store_cells (P := P) (w := w) (b := b) (off := off) hi (y := a.eval y) (by rw [hsz, hl]) hcell (by omega) (by rw [hys]; exact h1)
    rw [hys, hsz] at hrun
    refine wp_skip_op (w' := w.setRow b (cur.toList.take off ++ ys ++ cur.toList.drop (off + ys.length)).toArray) ?_ ⟨_, hK, by rw [put_defers]; exact hf, phi, ro, ?_⟩
    · simp [execOp, ho, hxy, hrun]
    · rw [hdst]
      refine h.write hr hb hcell (setRow_heap w b cur _ e _ hcell) ?_ (fun k hk _ => setRow_other w b k _ hk) rfl rfl rfl (by simp) hs
      simp
      omega
  rcases hK with ⟨hk1, hoff, hok, hK⟩ | ⟨l, hl, hll, hle, hok, hK⟩
  · have h1 := cellOk_one hok hy
    have hcells : (a.eval y).cells = #[a.eval y] := by
      generalize a.eval y = v at h1
      cases v <;> first | rfl | (simp [Value.oneCell'] at h1)
    refine fin [a.eval y] _ (by rw [hcells]) (by simp [hk1]) (by simp; omega) (by simpa using h1) ?_ hK
    have hset : cur.toList.take off ++ [a.eval y] ++ cur.toList.drop (off + [a.eval y].length) = cur.toList.set off (a.eval y) := by
      rw [List.set_eq_take_append_cons_drop, if_pos (by simp; omega)]
      simp
    rw [hset]
    exact SimL.set hsim (cellOk_sim hok hy) hoff
  · rw [hl] at hy
    simp only [SimV] at hy
    obtain ⟨ar, hv, hsz, hs⟩ := hy
    have hlen2 : ar.toList.length = l.length := by simpa using hsz
    refine fin ar.toList _ (by rw [hv]; rfl) (by omega) (by omega) (cellOk_oneL hok hs hlen2) ?_ hK
    have hs' := cellOk_simL hok hs
    have ht : SimL (cs.take off) (if fl then (ctx w0 w ro phi s).out else ctx w0 w ro phi s) (cur.toList.take off) := (SimL.take off hsim).shorter off (by simp; omega)
    have hd : SimL (cs.drop (off + i.size)) (if fl then (ctx w0 w ro phi s).out else ctx w0 w ro phi s) (cur.toList.drop (off + i.size)) := SimL.drop (off + i.size) hsim
    have := (ht.append (by simp; omega) hs').append (by simp; omega) hd
    rwa [show off + ar.toList.length = off + i.size by omega]
end Go.Am
namespace Go.Am
variable [Go.Am.CodeBlk]
variable {P : Program} {w0 w : World} {mu : Nat → Option Nat} {N : Nat} {s : AS} {o : Oper} {a : Act} {phi : Nat → Option Nat} {ro : Nat → Prop} {K : AS → Prop} {Q : Exit → Act → World → Prop} {own : Bool}
theorem more_drew_alloc (w : World) (ob : Obj) : More w (w.drew.alloc ob) := (More.drew w).trans (More.alloc w.drew ob)
theorem simL_v {C : Ctx} : ∀ (l : List Value), SimL (l.map AV.v) C l
  | [] => by simp [SimL]
  | v :: l => by simp only [List.map_cons, SimL, SimV, true_and]; exact simL_v l
theorem made_flat (zs : List Value) : ∀ n : Nat, madeCells zs.toArray (n * zs.length) = ((List.replicate n zs).flatten).toArray := by
  intro n
  by_cases hz : zs.length = 0
  · have : zs = [] := List.eq_nil_of_length_eq_zero hz
    subst this
    simp [madeCells]
  · apply Array.ext
    · simp [size_madeCells]
    · intro i h1 h2
      simp only [madeCells, Array.getElem_map, Array.getElem_range, List.size_toArray, List.getElem_toArray]
      have hlt : i < n * zs.length := by simpa [size_madeCells] using h1
      clear h1
      induction n generalizing i with
      | zero => simp at hlt
      | succ n ih =>
        simp only [List.replicate_succ, List.flatten_cons]
        by_cases hi : i < zs.length
        · rw [List.getElem_append_left hi]
          simp [Nat.mod_eq_of_lt hi, hi]
        · rw [List.getElem_append_right (by omega)]
          have hm : i % zs.length = (i - zs.length) % zs.length := by
            rw [← Nat.mod_eq_sub_mod (by omega)]
          rw [hm]
          have hlt2 : i - zs.length < n * zs.length := by
            rw [Nat.succ_mul] at hlt; omega
          exact ih (i - zs.length) (by simpa using hlt2) hlt2
theorem replicate_map_flatten (zs : List Value) (n : Nat) : (List.replicate n (zs.map AV.v)).flatten = ((List.replicate n zs).flatten).map AV.v := by
  rw [List.map_flatten, List.map_replicate]
theorem replicate_flatten_prefix {C : Ctx} (zs : List Value) (n m : Nat) (h : n ≤ m) : SimL ((List.replicate n (zs.map AV.v)).flatten) C ((List.replicate m zs).flatten) := by
  obtain ⟨k, rfl⟩ := Nat.le.dest h
  rw [replicate_map_flatten, ← List.replicate_append_replicate, List.flatten_append]
  exact (simL_v _).longer
theorem ok_mk {t e : TypeId} {l c : Operand} {i : TypeInfo} {z : Value} (ho : o.op = .makeSlice t l c) (ht : P.underlying t = some (.slice e)) (hi : P.info? e = some i) (hz : i.zero = some z) (hzs : z.cells.size = i.size)
    (hf : a.defers = []) (h : Sim w0 mu N s a.tmps w phi ro) (hd : ∀ k, o.dst = some k → k < N)
    (hK : aexec P own (.mk i.size i.bytes z.cells.toList (opd l) (opd c)) o.dst s K) : o.wp P a w (After w0 mu N K) Q := by
  obtain ⟨r, kl, kc, n, m, hr, hl, hc, h0, hnm, hby, h63, hK⟩ := hK
  have hel := h.ev l
  have hec := h.ev c
  rw [hl] at hel
  rw [hc] at hec
  simp only [SimV] at hel hec
  have hrun := run_make (P := P) w t e i z ht hi hz kl kc n m h0 hnm hby h63
  have hflat : madeCells z.cells (m.toNat * i.size) = ((List.replicate m.toNat z.cells.toList).flatten).toArray := by
    have := made_flat z.cells.toList m.toNat
    rw [Array.length_toList, hzs] at this
    simpa using this
  rw [hflat] at hrun
  have hsim : SimR (true, (List.replicate n.toNat (z.cells.toList.map AV.v)).flatten) (ctx w0 w ro phi s) ((List.replicate m.toNat z.cells.toList).flatten).toArray.toList := by
    simp only [SimR, if_true]
    exact replicate_flatten_prefix _ _ _ (by omega)
  obtain ⟨phi', hp, h1⟩ := h.new (More.alloc w _) r (Nat.lt_of_lt_of_le (hd r hr) h.npb) _ (Nat.le_refl _) (heap_alloc_new w (.cells _ e)) hsim
  refine wp_value (v := .slice (some ⟨w.heap.size, 0, none⟩) n.toNat m.toNat) (w' := _) ?_ (After.put hf h1 hd ?_ hK)
  · simp [execOp, ho, hel, hec, hrun]
  · simp only [SimV]
    refine ⟨rfl, by simp [ctx, AS.mem, killR], .inr ⟨_, 0, m.toNat, _, e, hp, rfl, heap_alloc_new w _, .inl rfl, by omega, by simp [maxLen]; omega, ?_⟩⟩
    simp [hzs]
def BndV (x : Option Value) (l d : Nat) : Prop :=
  match x with
  | none => l = d
  | some y => ∃ k, y = .int k (l : Nat)
theorem run_cut {t e : TypeId} {i : TypeInfo} (ht : P.underlying t = some (.slice e)) (hi : P.info? e = some i) (ba : Option Addr) (n cap : Nat) (lo hi' : Option Value) (l h : Nat)
    (hlo : BndV lo l 0) (hhi : BndV hi' h n) (h1 : l ≤ h) (h2 : h ≤ n) (h3 : n ≤ cap) :
    (Instr.sliceAt t (.slice ba n cap) lo hi' none).run P w = .ok (.slice (if cap = l then ba else ba.map (·.add (l * i.size))) (h - l) (cap - l)) w := by
  have hsb : ∀ (k : IntKind) (x y : Nat) (code : BoundsCode), x ≤ y → (Instr.sliceBound (.int k x) y code).run P w = .ok x w := by
    intro k x y code hxy
    rw [run_sliceBound (P := P) w k x y code (by omega) (by omega)]
    simp
  have hb : (Instr.sliceBounds true n cap lo hi' none).run P w = .ok (l, h, cap) w := by
    unfold Instr.sliceBounds
    cases lo with
    | none =>
      simp only [BndV] at hlo
      subst hlo
      cases hi' with
      | none => simp only [BndV] at hhi; subst hhi; simp
      | some y =>
        obtain ⟨k, rfl⟩ := hhi
        simp [hsb k h cap _ (by omega)]
    | some x =>
      obtain ⟨kx, rfl⟩ := hlo
      cases hi' with
      | none => simp only [BndV] at hhi; subst hhi; simp [hsb kx l h _ h1]
      | some y =>
        obtain ⟨k, rfl⟩ := hhi
        simp [hsb k h cap _ (by omega), hsb kx l h _ h1]
  simp [Instr.sliceAt, run_underlying ht, Instr.slice, hb, sizeOf, typeInfo, hi]
theorem run_cut3 {t e : TypeId} {i : TypeInfo} (ht : P.underlying t = some (.slice e)) (hi : P.info? e = some i) (ba : Option Addr) (n cap : Nat) (k k' : IntKind) (h3 : n ≤ cap) :
    (Instr.sliceAt t (.slice ba n cap) none (some (.int k (n : Nat))) (some (.int k' (n : Nat)))).run P w = .ok (.slice (if n = 0 then ba else ba.map (·.add (0 * i.size))) n n) w := by
  have hsb : ∀ (k : IntKind) (x y : Nat) (code : BoundsCode), x ≤ y → (Instr.sliceBound (.int k x) y code).run P w = .ok x w := by
    intro k x y code hxy
    rw [run_sliceBound (P := P) w k x y code (by omega) (by omega)]
    simp
  have hb : (Instr.sliceBounds true n cap none (some (.int k (n : Nat))) (some (.int k' (n : Nat)))).run P w = .ok (0, n, n) w := by
    unfold Instr.sliceBounds
    simp [hsb k' n cap _ h3, hsb k n n _ (Nat.le_refl _)]
  simp [Instr.sliceAt, run_underlying ht, Instr.slice, hb, sizeOf, typeInfo, hi]
/-- A slice expression with three indexes that tells all and no room behind. -/
theorem ok_cut3 {t e : TypeId} {x hi' mx : Operand} {i : TypeInfo} (ho : o.op = .slice t x none (some hi') (some mx)) (ht : P.underlying t = some (.slice e)) (hi : P.info? e = some i)
    (hf : a.defers = []) (h : Sim w0 mu N s a.tmps w phi ro) (hd : ∀ k, o.dst = some k → k < N)
    (hK : aexec P own (.cut3 i.size (opd x) (opd hi') (opd mx)) o.dst s K) : o.wp P a w (After w0 mu N K) Q := by
  obtain ⟨fr, cs, n, k, k', he, h1, h2, hK⟩ := hK
  have hx := h.ev x
  have hy1 := h.ev hi'
  have hy2 := h.ev mx
  rw [he] at hx
  rw [h1] at hy1
  rw [h2] at hy2
  simp only [SimV] at hx hy1 hy2
  rcases hx with ⟨hn, rfl, ad, c, hy, _⟩ | ⟨b, o', cap, cur, e', fz, hy, hcell, hro, hlen, hncap, _, hs⟩
  · have hy' : a.eval x = .slice ad n c := by rw [hn]; exact hy
    have hrun := run_cut3 (P := P) (w := w) ht hi ad n c k k' (by omega)
    rw [if_pos hn] at hrun
    refine wp_value (v := .slice ad n n) (w' := w) (by simp [execOp, ho, hy', hy1, hy2, hrun]) (After.put hf h hd ?_ hK)
    simp only [SimV]
    exact .inl ⟨hn, trivial, ad, by rw [hn]⟩
  · have hrun := run_cut3 (P := P) (w := w) ht hi (some ⟨b, o', none⟩) n cap k k' hncap
    have hv : (if n = 0 then some (⟨b, o', none⟩ : Addr) else (some (⟨b, o', none⟩ : Addr)).map (·.add (0 * i.size))) = some ⟨b, o', none⟩ := by
      split
      · rfl
      · simp [addr_add]
    rw [hv] at hrun
    refine wp_value (v := .slice (some ⟨b, o', none⟩) n n) (w' := w) (by simp [execOp, ho, hy, hy1, hy2, hrun]) (After.put hf h hd ?_ hK)
    simp only [SimV]
    exact .inr ⟨b, o', cur, e', fz, rfl, hcell, hro, hlen, hs⟩
theorem opt_bound {s : AS} {C : Ctx} {a : Act} {x : Option Operand} {l d : Nat} (hev : ∀ x, SimV (s.ev (opd x)) C (a.eval x)) (h : Bnd s (x.map opd) l d) : BndV (x.map a.eval) l d := by
  cases x with
  | none => exact h
  | some x =>
    obtain ⟨k, hk⟩ := h
    have := hev x
    rw [hk] at this
    exact ⟨k, by simpa [SimV] using this⟩
theorem ok_cut {t e : TypeId} {x : Operand} {lo hi' : Option Operand} {i : TypeInfo} (ho : o.op = .slice t x lo hi' none) (ht : P.underlying t = some (.slice e)) (hi : P.info? e = some i)
    (hf : a.defers = []) (h : Sim w0 mu N s a.tmps w phi ro) (hd : ∀ k, o.dst = some k → k < N)
    (hK : aexec P own (.cut i.size (opd x) (lo.map opd) (hi'.map opd)) o.dst s K) : o.wp P a w (After w0 mu N K) Q := by
  obtain ⟨l, hh, hlo, hK⟩ := hK
  have hx := h.ev x
  have hlo' := opt_bound (d := 0) (fun y => h.ev y) hlo
  rcases hK with ⟨r, off, n, he, hhi, h1, h2, hK⟩ | ⟨fr, cs, n, he, hhi, h1, h2, hK⟩ | ⟨he, rfl, rfl, hhi, hK⟩
  case inr.inr =>
    have hhi' := opt_bound (d := 0) (fun y => h.ev y) hhi
    rw [he] at hx
    simp only [SimV] at hx
    have hrun := run_cut (P := P) (w := w) ht hi none 0 0 _ _ 0 0 hlo' hhi' (Nat.le_refl _) (Nat.le_refl _) (Nat.le_refl _)
    refine wp_value (v := .slice none 0 0) (w' := w) ?_ (After.put hf h hd (by simp [SimV]) hK)
    simp [execOp, ho, hx, hrun]
  · have hhi' := opt_bound (d := n) (fun y => h.ev y) hhi
    rw [he] at hx
    simp only [SimV] at hx
    obtain ⟨hc, hl, hx⟩ := hx
    rcases hx with ⟨hp, rfl, rfl, hy⟩ | ⟨b, o', cap, cur, e', hb, hy, hcell, hoff, hcap, hml, hroom⟩
    · have hrun := run_cut (P := P) (w := w) ht hi none 0 0 _ _ l hh hlo' hhi' h1 h2 (Nat.le_refl _)
      have : l = 0 := by omega
      subst this
      have : hh = 0 := by omega
      subst this
      refine wp_value (v := .slice none 0 0) (w' := w) ?_ (After.put hf h hd ?_ hK)
      · simp [execOp, ho, hy, hrun]
      · simp only [SimV]
        exact ⟨hc, hl, .inl (by simp [hp])⟩
    · have hrun := run_cut (P := P) (w := w) ht hi (some ⟨b, o', none⟩) n cap _ _ l hh hlo' hhi' h1 h2 hcap
      by_cases hcl : cap = l
      · rw [if_pos hcl] at hrun
        refine wp_value (v := .slice (some ⟨b, o', none⟩) (hh - l) (cap - l)) (w' := w) ?_ (After.put hf h hd ?_ hK)
        · simp [execOp, ho, hy, hrun]
        · simp only [SimV]
          refine ⟨hc, hl, .inr ⟨b, o', cap - l, cur, e', hb, rfl, hcell, ?_, by omega, by omega, ?_⟩⟩
          · by_cases hl0 : l * i.size = 0
            · rcases hoff with hoff | hoff
              · exact .inl (by omega)
              · exact .inr ⟨by omega, by omega⟩
            · exact .inr ⟨by omega, by omega⟩
          · have : (cap - l) * i.size ≤ cap * i.size := Nat.mul_le_mul_right _ (by omega)
            omega
      · rw [if_neg hcl] at hrun
        simp only [Option.map_some, addr_add] at hrun
        refine wp_value (v := .slice (some ⟨b, o' + l * i.size, none⟩) (hh - l) (cap - l)) (w' := w) ?_ (After.put hf h hd ?_ hK)
        · simp [execOp, ho, hy, hrun]
        · simp only [SimV]
          refine ⟨hc, hl, .inr ⟨b, _, cap - l, cur, e', hb, rfl, hcell, ?_, by omega, by omega, ?_⟩⟩
          · rcases hoff with hoff | hoff
            · exact .inl (by omega)
            · exact .inr ⟨by omega, by omega⟩
          · have : l * i.size + (cap - l) * i.size = cap * i.size := by rw [← Nat.add_mul]; congr 1; omega
            omega
  · have hhi' := opt_bound (d := n) (fun y => h.ev y) hhi
    rw [he] at hx
    simp only [SimV] at hx
    rcases hx with ⟨rfl, rfl, ad, c, hy, _⟩ | ⟨b, o', cap, cur, e', fz, hy, hcell, hro, hlen, hncap, _, hs⟩
    · have hrun := run_cut (P := P) (w := w) ht hi ad 0 c _ _ l hh hlo' hhi' h1 h2 (Nat.zero_le _)
      have : hh = 0 := by omega
      subst this
      have : l = 0 := by omega
      subst this
      refine wp_value (v := .slice (if c = 0 then ad else ad.map (·.add (0 * i.size))) (0 - 0) (c - 0)) (w' := w) (by simp [execOp, ho, hy, hrun]) (After.put hf h hd ?_ hK)
      simp [SimV]
    · have hrun := run_cut (P := P) (w := w) ht hi (some ⟨b, o', none⟩) n cap _ _ l hh hlo' hhi' h1 h2 hncap
      by_cases hcl : cap = l
      · rw [if_pos hcl] at hrun
        have : hh = l := by omega
        subst this
        refine wp_value (v := .slice (some ⟨b, o', none⟩) (hh - hh) (cap - hh)) (w' := w) ?_ (After.put hf h hd ?_ hK)
        · simp [execOp, ho, hy, hrun]
        · simp only [SimV]
          exact .inl ⟨by omega, by simp, some ⟨b, o', none⟩, cap - hh, by simp, by simp⟩
      · rw [if_neg hcl] at hrun
        simp only [Option.map_some, addr_add] at hrun
        refine wp_value (v := .slice (some ⟨b, o' + l * i.size, none⟩) (hh - l) (cap - l)) (w' := w) ?_ (After.put hf h hd ?_ hK)
        · simp [execOp, ho, hy, hrun]
        · simp only [SimV]
          refine .inr ⟨b, _, cap - l, cur, e', fz, rfl, hcell, hro, ?_, by omega, by simp, ?_⟩
          · have h5 : l * i.size + (hh - l) * i.size = hh * i.size := by rw [← Nat.add_mul]; congr 1; omega
            have h6 : hh * i.size ≤ n * i.size := Nat.mul_le_mul_right _ h2
            simp only [List.length_take, List.length_drop, hlen]
            omega
          · have := (hs.drop (l * i.size)).take ((hh - l) * i.size)
            rwa [List.drop_drop] at this
end Go.Am
namespace Go.Am
variable [Go.Am.CodeBlk]
variable {P : Program} {w0 w : World} {mu : Nat → Option Nat} {N : Nat} {s : AS} {o : Oper} {a : Act} {phi : Nat → Option Nat} {ro : Nat → Prop} {K : AS → Prop} {Q : Exit → Act → World → Prop} {own : Bool}
/-- A slice's cells, in the model: read alike in every world of the same heap. -/
theorem elems_sim (h : Sim w0 mu N s a.tmps w phi ro) {z m : Nat} {x : AV} {ys : List AV} (he : Elems s.hp z x m ys) {y : Value} (hx : SimV x (ctx w0 w ro phi s) y) :
    ∃ yb yc news, y = .slice yb m yc ∧ news.length = m * z ∧ ys.length = m * z ∧ SimL ys (ctx w0 w ro phi s) news ∧ ∀ w'' : World, w''.heap = w.heap → (Builtin.firstCells z m y).run P w'' = .ok news.toArray w'' := by
  have block : ∀ (b o' cap : Nat) (cur : Array Value) (e : TypeId) (fz : Nat × Nat), w.heap[b]? = some (.cells cur e fz) → o' + m * z ≤ cur.size → y = .slice (some ⟨b, o', none⟩) m cap → ys.length = m * z →
      SimL ys (ctx w0 w ro phi s) ((cur.toList.drop o').take (m * z)) →
      ∃ yb yc news, y = .slice yb m yc ∧ news.length = m * z ∧ ys.length = m * z ∧ SimL ys (ctx w0 w ro phi s) news ∧ ∀ w'' : World, w''.heap = w.heap → (Builtin.firstCells z m y).run P w'' = .ok news.toArray w'' := by
    intro b o' cap cur e fz hb hle hy hys hs
    have hl : ((cur.toList.drop o').take (m * z)).length = m * z := by simp; omega
    refine ⟨_, cap, _, hy, hl, hys, hs, fun w'' hw => ?_⟩
    rw [hy]
    refine run_firstCells_some (P := P) w'' z m _ m cap _ hl fun j v hj => ?_
    rw [addr_add, cell_of_row w'' b (o' + j) cur e fz (by rw [hw]; exact hb)]
    rw [List.getElem?_take] at hj
    split at hj
    · rw [List.getElem?_drop] at hj
      simpa using hj
    · cases hj
  cases he with
  | ro fr cs n =>
    simp only [SimV] at hx
    rcases hx with ⟨rfl, rfl, ad, c, hy, _⟩ | ⟨b, o', cap, cur, e, fz, hy, hcell, hro, hlen, hnc, _, hs⟩
    · refine ⟨ad, c, [], hy, by simp, by simp, by simp [SimL], fun w'' _ => ?_⟩
      rw [hy]
      cases ad <;> simp [Builtin.firstCells, loadCells, loadCellsFrom]
    · have hle := hs.length_le
      have hcell' : w.heap[b]? = some (.cells cur e fz) := hcell
      simp only [List.length_drop, Array.length_toList] at hle
      by_cases hoc : o' ≤ cur.size
      · exact block b o' cap cur e fz hcell' (by omega) hy hlen (SimL.mono _ _ _ _ (out_le _) (hs.shorter _ (by omega)))
      · have hm : m * z = 0 := by omega
        have hcs : ys = [] := List.eq_nil_of_length_eq_zero (by omega)
        refine ⟨_, cap, [], hy, by simp [hm], hlen, by simp [hcs, SimL], fun w'' _ => ?_⟩
        rw [hy]
        simp [Builtin.firstCells, hm, loadCells, loadCellsFrom]
  | nil =>
    simp only [SimV] at hx
    refine ⟨none, 0, [], hx, by simp, by simp, by simp [SimL], fun w'' _ => ?_⟩
    rw [hx]
    simp [Builtin.firstCells]
  | sl r off n fl cs hr hl =>
    simp only [SimV] at hx
    obtain ⟨_, _, hx⟩ := hx
    rcases hx with ⟨hp, rfl, rfl, hy⟩ | ⟨b, o', cap, cur, e, hb, hy, hcell, hoff, hcap, hml, hroom⟩
    · refine ⟨none, 0, [], hy, by simp, by simp, by simp [SimL], fun w'' _ => ?_⟩
      rw [hy]
      simp [Builtin.firstCells]
    · obtain ⟨cur2, e2, hcell2, hsim, _⟩ := h.cell hr hb hcell
      have hcell' : w.heap[b]? = some (.cells cur e (0, 0)) := hcell
      rw [hcell'] at hcell2
      cases hcell2
      have hmz : m * z ≤ cap * z := Nat.mul_le_mul_right _ hcap
      by_cases hm : m * z = 0
      · refine ⟨_, cap, [], hy, by simp [hm], by simp [hm], by simp [hm, SimL], fun w'' _ => ?_⟩
        rw [hy]
        simp [Builtin.firstCells, hm, loadCells, loadCellsFrom]
      · have ho : o' = off := by
          rcases hoff with h1 | h1
          · exact h1
          · exact absurd (by rw [h1.1, Nat.zero_mul]) hm
        subst ho
        refine block b o' cap cur e (0, 0) hcell' (by omega) hy (by simp; omega) ?_
        exact ((hsim.list.drop o').take (m * z)).shorter _ (by simp; omega)
theorem run_append_nil0 {t ty e : TypeId} {i : TypeInfo} (ht : P.underlying t = some (.slice e)) (hi : P.info? e = some i) {yb : Option Addr} {c : Nat} {news : List Value}
    (hf : ∀ w'' : World, w''.heap = w.heap → (Builtin.firstCells i.size 0 (.slice yb 0 c)).run P w'' = .ok news.toArray w'') :
    (Builtin.append_ #[t, t] ty #[.slice none 0 0, .slice yb 0 c]).run P w = .ok (.slice none 0 0) w := by
  simp [Builtin.append_, run_underlying ht, sizeOf, typeInfo, hi, Builtin.lenOf, hf w rfl]
theorem run_append_grow' {t ty e : TypeId} {i : TypeInfo} {z : Value} (ht : P.underlying t = some (.slice e)) (hi : P.info? e = some i) (hz : i.zero = some z)
    {sb : Option Addr} {sLen sCap : Nat} {olds : List Value} (hfo : ∀ w'' : World, w''.heap = w.heap → (Builtin.firstCells i.size sLen (.slice sb sLen sCap)).run P w'' = .ok olds.toArray w'')
    {yb : Option Addr} {m c : Nat} {news : List Value} (hf : ∀ w'' : World, w''.heap = w.heap → (Builtin.firstCells i.size m (.slice yb m c)).run P w'' = .ok news.toArray w'')
    (hg : sCap < sLen + m) (h63 : ((sLen + m : Nat) : Int) ≤ 9223372036854775807) (hfit : Builtin.nextslicecap (sLen + m) sCap * i.bytes ≤ 281474976710656) :
    (Builtin.append_ #[t, t] ty #[.slice sb sLen sCap, .slice yb m c]).run P w =
      .ok (.slice (some ⟨w.heap.size, 0, none⟩) (sLen + m) (grownCap w (sLen + m) sCap e))
        (w.drew.alloc (.cells (olds.toArray ++ news.toArray ++ Builtin.zeroCells z.cells (grownCap w (sLen + m) sCap e - (sLen + m))) e)) := by
  have hn : ¬ (sLen + m ≤ sCap) := by omega
  have h63' : ¬ (9223372036854775807 < ((sLen : Int) + (m : Int))) := by omega
  have h48' : ¬ (281474976710656 < Builtin.nextslicecap (sLen + m) sCap * i.bytes) := by omega
  simp [Builtin.append_, run_underlying ht, sizeOf, typeInfo, zeroValue, hi, hz, Builtin.lenOf, hn, h63', h48', Question.forced, hf w.drew rfl, hfo w.drew rfl, newRow, grownCap]
  congr 2
  apply Array.ext'
  simp [List.append_assoc]
theorem SimR.append {fl : Bool} {cs ys : List AV} {C : Ctx} {xs news : List Value} (h : SimR (fl, cs) C xs) (hx : xs.length = cs.length) (hy : SimL ys C news) (hok : ys.all (cellOk fl) = true) : SimR (fl, cs ++ ys) C (xs ++ news) := by
  unfold SimR at *
  have hy' := cellOk_simL hok hy
  cases fl
  · exact SimL.append h hx hy'
  · exact SimL.append h hx hy'
theorem SimR.pre {c : Bool × List AV} {C : Ctx} {xs ys : List Value} (h : SimR c C xs) : SimR c C (xs ++ ys) := by
  unfold SimR at *
  exact SimL.longer h
theorem SimR.shorter {c : Bool × List AV} {C : Ctx} {xs : List Value} (h : SimR c C xs) (k : Nat) (hk : c.2.length ≤ k) : SimR c C (xs.take k) := by
  unfold SimR at *
  exact SimL.shorter h k hk
theorem ok_app {x y : Operand} {t e : TypeId} {i : TypeInfo} {z : Value} (ho : o.op = .call { callee := .builtin .append, args := #[x, y], argTypes := #[t, t] }) (ht : P.underlying t = some (.slice e))
    (hi : P.info? e = some i) (hz : i.zero = some z) (hzs : z.cells.size = i.size)
    (hf : a.defers = []) (h : Sim w0 mu N s a.tmps w phi ro) (hd : ∀ k, o.dst = some k → k < N)
    (hK : aexec P own (.app i.size i.bytes (opd x) (opd y)) o.dst s K) : o.wp P a w (After w0 mu N K) Q := by
  rcases hK with ⟨q, r, n, m, fl, cs, ys, hq, hxe, hpb, hr, hcs, hel, hok, hml, hby, hK⟩ | ⟨q, n, m, cs, ys, hq, hxe, hel, hm0, hok, hml, hby, hK⟩
  case inr =>
    have hx := h.ev x
    have hy := h.ev y
    rw [hxe] at hx
    obtain ⟨yb, yc, news, hyv, hnl, hyl, hys, hread⟩ := elems_sim (P := P) h hel hy
    rw [hyv] at hread
    have hx' : SimV (.ro false i.size cs n) (ctx w0 w ro phi s) (a.eval x) ∧ ∃ ad, a.eval x = .slice ad n n := by
      simp only [SimV] at hx ⊢
      rcases hx with ⟨rfl, rfl, ad, hv⟩ | ⟨b, o', cur, e', fz, hv, h1, h2, h3, h4⟩
      · exact ⟨.inl ⟨rfl, rfl, ad, 0, hv, fun e => by cases e⟩, ad, hv⟩
      · exact ⟨.inr ⟨b, o', n, cur, e', fz, hv, h1, h2, h3, Nat.le_refl _, (fun e => by cases e), h4⟩, _, hv⟩
    obtain ⟨hxr, ad, hxv⟩ := hx'
    obtain ⟨xb, xc, olds, hxv', hol, hcl, hos, hreadx⟩ := elems_sim (P := P) h (Elems.ro (hp := s.hp) false cs n) hxr
    rw [hxv] at hxv' hreadx
    have hlt : n < n + m := by omega
    have h63 : ((n + m : Nat) : Int) ≤ 9223372036854775807 := by simp only [maxLen] at hml; omega
    have hrun := run_append_grow' (P := P) (w := w) (ty := o.type) ht hi hz hreadx hread hlt h63 (growslice_fits hlt hby)
    have hge := grownCap_ge w (n + m) n e
    have hcm := grownCap_le_maxLen w (n + m) n e hml
    have hos' : SimL cs (ctx w0 w ro phi s).out olds := by
      simp only [SimV] at hxr
      rcases hxr with ⟨rfl, rfl, _⟩ | ⟨b, o', cap, cur, e', fz, hv, h1, h2, h3, _, _, h4⟩
      · simp [SimL]
      · rw [hxv] at hv
        cases hv
        have hh := hreadx w rfl
        have hle := h4.length_le
        simp only [List.length_drop, Array.length_toList] at hle
        have hl2 : ((cur.toList.drop o').take (n * i.size)).length = n * i.size := by simp; omega
        have h1' : w.heap[b]? = some (.cells cur e' fz) := h1
        have hh2 := run_firstCells_some (P := P) w i.size n (⟨b, o', none⟩ : Addr) n n _ hl2 fun j v hj => by
          rw [addr_add, cell_of_row w b (o' + j) cur e' fz h1']
          rw [List.getElem?_take] at hj
          split at hj
          · rw [List.getElem?_drop] at hj; simpa using hj
          · cases hj
        rw [hh2] at hh
        cases hh
        exact h4.shorter _ (by omega)
    have hsim : SimR (true, cs ++ ys) (ctx w0 w ro phi s) (olds.toArray ++ news.toArray ++ Builtin.zeroCells z.cells (grownCap w (n + m) n e - (n + m))).toList := by
      simp only [Array.toList_append]
      exact (SimR.append (fl := true) (by simpa only [SimR, if_true] using hos') (by omega) hys hok).pre
    obtain ⟨phi', hp, h1⟩ := h.new (more_drew_alloc w _) q (Nat.lt_of_lt_of_le (hd q hq) h.npb) _ (Nat.le_refl _) (heap_alloc_new w.drew (.cells _ e)) hsim
    refine wp_value (v := .slice (some ⟨w.heap.size, 0, none⟩) (n + m) (grownCap w (n + m) n e)) (w' := _) ?_ (After.put hf h1 hd ?_ hK)
    · simp [execOp, ho, resolve, invoke, builtin, hyv, hxv, hrun]
    · simp only [SimV]
      refine ⟨rfl, by simp [ctx, AS.mem], .inr ⟨_, 0, _, _, e, hp, rfl, heap_alloc_new w.drew (.cells _ e), .inl rfl, hge, hcm, ?_⟩⟩
      simp only [Array.size_append, List.size_toArray, size_zeroCells, hzs, hol, hnl, ← Nat.add_mul]
      rw [Nat.zero_add]
      exact Nat.mul_le_mul_right _ (by omega)
  have hx := h.ev x
  have hy := h.ev y
  rw [hxe] at hx
  obtain ⟨yb, yc, news, hyv, hnl, hyl, hys, hread⟩ := elems_sim (P := P) h hel hy
  rw [hyv] at hread
  have hone := cellOk_oneL hok hys (by omega)
  have fin : ∀ (v : Value) (w' : World) (phi' : Nat → Option Nat), (Builtin.append_ #[t, t] o.type #[a.eval x, .slice yb m yc]).run P w = .ok v w' →
      Sim w0 mu N (((s.kill r).kill q).mem q (killR q (killR r (fl, cs ++ ys)))) a.tmps w' phi' ro → SimV (.sl q i.size 0 (n + m)) (ctx w0 w' ro phi' (((s.kill r).kill q).mem q (killR q (killR r (fl, cs ++ ys))))) v →
      o.wp P a w (After w0 mu N K) Q := by
    intro v w' phi' hrun hS hv
    refine wp_value (v := v) (w' := w') ?_ (After.put hf hS hd hv hK)
    simp [execOp, ho, resolve, invoke, builtin, hyv, hrun]
  have hlive : (ctx w0 w ro phi (((s.kill r).kill q).mem q (killR q (killR r (fl, cs ++ ys))))).live q = true := by simp [ctx, AS.mem]
  have hkill : ∀ cur : List Value, SimR (fl, cs ++ ys) (ctx w0 w ro phi s) cur → SimR (killR r (fl, cs ++ ys)) (ctx w0 w ro phi (s.kill r)) cur := by
    intro cur hc
    refine hc.kill ⟨fun b hb => ⟨hb, rfl⟩, Nat.le_refl _, id, fun _ p hp hl => ⟨?_, rfl⟩, fun _ p b cur e _ _ _ hb => ⟨cur, hb, Nat.le_refl _⟩⟩
    have hpr : p ≠ r := by simpa using hp
    simpa [ctx, AS.kill, hpr] using hl
  simp only [SimV] at hx
  obtain ⟨_, _, hx⟩ := hx
  -- the new block, wherever the old cells lay
  have grow : ∀ (sb : Option Addr) (sc : Nat) (olds : List Value), a.eval x = .slice sb n sc → olds.length = n * i.size → SimR (fl, cs) (ctx w0 w ro phi s) olds →
      (∀ w'' : World, w''.heap = w.heap → (Builtin.firstCells i.size n (.slice sb n sc)).run P w'' = .ok olds.toArray w'') → sc < n + m → o.wp P a w (After w0 mu N K) Q := by
    intro sb sc olds hxv hol hos hro hlt
    have h63 : ((n + m : Nat) : Int) ≤ 9223372036854775807 := by simp only [maxLen] at hml; omega
    have hrun := run_append_grow' (P := P) (w := w) (ty := o.type) ht hi hz hro hread hlt h63 (growslice_fits hlt hby)
    have hge := grownCap_ge w (n + m) sc e
    have hcm := grownCap_le_maxLen w (n + m) sc e hml
    have hsim : SimR (fl, cs ++ ys) (ctx w0 w ro phi s) (olds.toArray ++ news.toArray ++ Builtin.zeroCells z.cells (grownCap w (n + m) sc e - (n + m))).toList := by
      simp only [Array.toList_append]
      exact (SimR.append hos (by omega) hys hok).pre
    obtain ⟨phi', hp, h1⟩ := (h.kill r).new (more_drew_alloc w _) q (Nat.lt_of_lt_of_le (hd q hq) h.npb) _ (Nat.le_refl _) (heap_alloc_new w.drew (.cells _ e)) (hkill _ hsim)
    refine fin _ _ phi' (by rw [hxv]; exact hrun) h1 ?_
    simp only [SimV]
    refine ⟨rfl, by simp [ctx, AS.mem], .inr ⟨_, 0, _, _, e, hp, rfl, heap_alloc_new w.drew (.cells _ e), .inl rfl, hge, hcm, ?_⟩⟩
    simp only [Array.size_append, List.size_toArray, size_zeroCells, hzs, hol, hnl, ← Nat.add_mul]
    rw [Nat.zero_add]
    exact Nat.mul_le_mul_right _ (by omega)
  rcases hx with ⟨hp, _, rfl, hxv⟩ | ⟨b, o', cap, cur, e', hb, hxv, hcell, hoff, hcap, hcm, hroom⟩
  · have hcs0 : cs = [] := List.eq_nil_of_length_eq_zero (by omega)
    subst hcs0
    by_cases hm : m = 0
    · subst hm
      have hys0 : ys = [] := List.eq_nil_of_length_eq_zero (by omega)
      subst hys0
      have hS := ((h.kill r).kill q).born (kill_hp _ q) (Nat.lt_of_lt_of_le (hd q hq) h.npb) (killR q (killR r (fl, []))) none (by cases fl <;> simp [killR, killL])
      refine fin (.slice none 0 0) w _ ?_ hS ?_
      · rw [hxv]
        exact run_append_nil0 ht hi hread
      · simp only [SimV]
        exact ⟨rfl, by simp [ctx, AS.mem], .inl (by simp [ctx])⟩
    · refine grow none 0 [] hxv (by simp) (by simp [SimR, SimL]) (fun w'' _ => by simp [Builtin.firstCells]) (by omega)
  · have ho' : o' = 0 := by
      rcases hoff with h1 | h1
      · exact h1
      · exact absurd h1.2 (Nat.lt_irrefl _)
    subst ho'
    obtain ⟨cur2, e2, hcell2, hsim, _⟩ := h.cell hr hb hcell
    have hcell' : w.heap[b]? = some (.cells cur e' (0, 0)) := hcell
    rw [hcell'] at hcell2
    cases hcell2
    have hlen := hsim.list.length_le
    simp only [Array.length_toList] at hlen
    by_cases hrm : n + m ≤ cap
    · have hfit : n * i.size + news.length ≤ cur.size := by
        have : (n + m) * i.size ≤ cap * i.size := Nat.mul_le_mul_right _ hrm
        rw [Nat.add_mul] at this
        omega
      have hst := run_storeCells_at P b (n * i.size) e' news 0 cur w hcell' (by simpa using hfit) hone
      simp only [Nat.add_zero] at hst
      have hrun : (Builtin.append_ #[t, t] o.type #[.slice (some ⟨b, 0, none⟩) n cap, .slice yb m yc]).run P w =
          .ok (.slice (some ⟨b, 0, none⟩) (n + m) cap) (w.setRow b (cur.toList.take (n * i.size) ++ news ++ cur.toList.drop (n * i.size + news.length)).toArray) := by
        simp [Builtin.append_, run_underlying ht, sizeOf, typeInfo, hi, Builtin.lenOf, hrm, hread w rfl, Addr.add_lit, hst]
      have hsz : cur.size = (cur.toList.take (n * i.size) ++ news ++ cur.toList.drop (n * i.size + news.length)).toArray.size := by simp; omega
      have hsim' : SimR (fl, cs ++ ys) (ctx w0 w ro phi s) (cur.toList.take (n * i.size) ++ news ++ cur.toList.drop (n * i.size + news.length)).toArray.toList :=
        (SimR.append (hsim.shorter (n * i.size) (by show cs.length ≤ _; omega)) (by simp; omega) hys hok).pre
      have h1 := h.write hr hb hcell' (setRow_heap w b cur _ e' _ hcell') hsz (fun k hk _ => setRow_other w b k _ hk) rfl rfl rfl (by simp) hsim'
      obtain ⟨phi', hp', h2⟩ := h1.rename (r := r) (q := q) (c := (fl, cs ++ ys)) (by simp [AS.mem]) hpb (Nat.lt_of_lt_of_le (hd q hq) h.npb) hb
      rw [kill_mem] at h2
      refine fin _ _ phi' (by rw [hxv]; exact hrun) h2 ?_
      simp only [SimV]
      refine ⟨rfl, by simp [ctx, AS.mem], .inr ⟨b, 0, cap, _, e', hp', rfl, setRow_heap w b cur _ e' _ hcell', .inl rfl, hrm, hcm, ?_⟩⟩
      rw [← hsz]
      exact hroom
    · have hle : n * i.size ≤ cur.size := by omega
      refine grow _ cap (cur.toList.take (n * i.size)) hxv (by simp; omega) (hsim.shorter _ (by show cs.length ≤ _; omega)) (fun w'' hw => ?_) (by omega)
      have hl : (cur.toList.take (n * i.size)).length = n * i.size := by simp; omega
      refine run_firstCells_some (P := P) w'' i.size n _ n cap _ hl fun j v hj => ?_
      rw [addr_add, cell_of_row w'' b (0 + j) cur e' (0, 0) (by rw [hw]; exact hcell')]
      rw [List.getElem?_take] at hj
      split at hj
      · simpa using hj
      · cases hj
/-- As many zero values asx told, put behind a nil slice. -/
theorem ok_appz {x y : Operand} {t u e : TypeId} {i : TypeInfo} {z : Value} {kn : IntKind} (ho : o.op = .call { callee := .builtin .append, args := #[x, y], argTypes := #[t, u] }) (ht : P.underlying t = some (.slice e))
    (hu : P.underlying u = some (.int kn)) (hi : P.info? e = some i) (hz : i.zero = some z) (hzs : z.cells.size = i.size) (hpos : 0 < i.size)
    (hf : a.defers = []) (h : Sim w0 mu N s a.tmps w phi ro) (hd : ∀ k, o.dst = some k → k < N)
    (hK : aexec P own (.appz i.size i.bytes z.cells.toList (opd x) (opd y)) o.dst s K) : o.wp P a w (After w0 mu N K) Q := by
  obtain ⟨r, kl, m, hr, hxe, hye, hm, hml, hby, hK⟩ := hK
  have hx := h.ev x
  have hy := h.ev y
  rw [hxe] at hx
  rw [hye] at hy
  simp only [SimV] at hx hy
  have hlt : (0 : Nat) < 0 + m := by omega
  have h63 : ((0 + m : Nat) : Int) ≤ 9223372036854775807 := by simp only [maxLen] at hml; omega
  have hrun := Lib.run_append_grow_zeros (P := P) w t u o.type e i z kl kn ht hu hi hz none 0 0 [] (by simp [Builtin.firstCells]) m hm hpos hlt h63 (by omega) (growslice_fits hlt (by simpa using hby))
  have hge := grownCap_ge w (0 + m) 0 e
  have hcm := grownCap_le_maxLen w (0 + m) 0 e (by simpa using hml)
  have hzc : Builtin.zeroCells z.cells m = ((List.replicate m z.cells.toList).flatten).toArray := by
    have := made_flat z.cells.toList m
    rw [Array.length_toList] at this
    simpa [madeCells, Builtin.zeroCells] using this
  have hsim : SimR (true, (List.replicate m (z.cells.toList.map AV.v)).flatten) (ctx w0 w ro phi s) (([] : List Value).toArray ++ Builtin.zeroCells z.cells m ++ Builtin.zeroCells z.cells (grownCap w (0 + m) 0 e - (0 + m))).toList := by
    rw [hzc]
    simp only [Array.toList_append, List.nil_append]
    refine SimR.pre ?_
    simp only [SimR, if_true]
    exact replicate_flatten_prefix _ _ _ (Nat.le_refl _)
  obtain ⟨phi', hp, h1⟩ := h.new (more_drew_alloc w _) r (Nat.lt_of_lt_of_le (hd r hr) h.npb) _ (Nat.le_refl _) (heap_alloc_new w.drew (.cells _ e)) hsim
  refine wp_value (v := .slice (some ⟨w.heap.size, 0, none⟩) (0 + m) (grownCap w (0 + m) 0 e)) (w' := _) ?_ (After.put hf h1 hd ?_ hK)
  · simp [execOp, ho, resolve, invoke, builtin, hx, hy, hrun]
  · rw [Nat.zero_add] at hge hcm ⊢
    simp only [SimV]
    refine ⟨rfl, by simp [ctx, AS.mem], .inr ⟨_, 0, _, _, e, hp, rfl, heap_alloc_new w.drew (.cells _ e), .inl rfl, hge, hcm, ?_⟩⟩
    simp only [Array.size_append, List.size_toArray, size_zeroCells, hzs, List.length_nil, Nat.zero_add, ← Nat.add_mul]
    exact Nat.mul_le_mul_right _ (by omega)
end Go.Am
namespace Go.Am
variable [Go.Am.CodeBlk]
variable {P : Program} {w0 w : World} {mu : Nat → Option Nat} {N : Nat} {s : AS} {o : Oper} {a : Act} {phi : Nat → Option Nat} {ro : Nat → Prop} {K : AS → Prop} {Q : Exit → Act → World → Prop} {own : Bool}
theorem ok_newvar {v : Value} {e : TypeId} {fl : Bool} {cs : List AV} {r : Nat} (hrun : (execOp a.eval o).run P w = .ok (.value (.pointer (some ⟨w.heap.size, 0, none⟩))) (w.alloc (.cells v.cells e)))
    (hf : a.defers = []) (h : Sim w0 mu N s a.tmps w phi ro) (hd : ∀ k, o.dst = some k → k < N) (hs : SimR (fl, cs) (ctx w0 w ro phi s) v.cells.toList) (hr : o.dst = some r)
    (hK : K (((s.kill r).mem r (killR r (fl, cs))).put o.dst (.pt r 0))) : o.wp P a w (After w0 mu N K) Q := by
  obtain ⟨phi', hp, h1⟩ := h.new (More.alloc w _) r (Nat.lt_of_lt_of_le (hd r hr) h.npb) _ (Nat.le_refl _) (heap_alloc_new w (.cells _ e)) hs
  refine wp_value hrun (After.put hf h1 hd ?_ hK)
  simp only [SimV]
  exact ⟨rfl, by simp [ctx, AS.mem], _, hp, rfl, _, e, heap_alloc_new w (.cells _ e)⟩
theorem ok_alloc {t : TypeId} {i : TypeInfo} {z : Value} (ho : o.op = .alloc t) (hi : P.info? t = some i) (hz : i.zero = some z)
    (hf : a.defers = []) (h : Sim w0 mu N s a.tmps w phi ro) (hd : ∀ k, o.dst = some k → k < N)
    (hK : aexec P own (.alloc z.cells.toList) o.dst s K) : o.wp P a w (After w0 mu N K) Q := by
  obtain ⟨r, fl, hr, hK⟩ := hK
  have hkl : ∀ l : List Value, killL r (l.map AV.v) = l.map AV.v := by
    intro l
    induction l with
    | nil => rfl
    | cons a l ih => show killV r (.v a) :: killL r (l.map AV.v) = _; rw [ih]; rfl
  have hkr : killR r (fl, z.cells.toList.map AV.v) = (fl, z.cells.toList.map AV.v) := by
    cases fl with
    | true => rfl
    | false => show (false, killL r _) = _; rw [hkl]
  refine ok_newvar (v := z) (e := t) (fl := fl) (cs := z.cells.toList.map AV.v) (r := r) ?_ hf h hd (by cases fl <;> exact simL_v _) hr (by rw [hkr]; exact hK)
  simp [execOp, ho, Instr.alloc, zeroValue, typeInfo, hi, hz, newVar, newRow]
theorem ok_box {t : TypeId} {x : Operand} {k : Nat} (ho : o.op = .box t x)
    (hf : a.defers = []) (h : Sim w0 mu N s a.tmps w phi ro) (hd : ∀ k, o.dst = some k → k < N)
    (hK : aexec P own (.box k (opd x)) o.dst s K) : o.wp P a w (After w0 mu N K) Q := by
  obtain ⟨r, fl, hr, hK⟩ := hK
  have hx := h.ev x
  have hrun : (execOp a.eval o).run P w = .ok (.value (.pointer (some ⟨w.heap.size, 0, none⟩))) (w.alloc (.cells (a.eval x).cells t)) := by
    simp [execOp, ho, Instr.box, newVar, newRow]
  rcases hK with ⟨_, hok, hK⟩ | ⟨l, hl, hok, hK⟩
  · have h1 := cellOk_one hok hx
    have hcells : (a.eval x).cells = #[a.eval x] := by
      generalize a.eval x = v at h1
      cases v <;> first | rfl | (simp [Value.oneCell'] at h1)
    refine ok_newvar hrun hf h hd (fl := fl) (cs := [s.ev (opd x)]) ?_ hr hK
    rw [hcells]
    unfold SimR
    have := cellOk_sim hok hx
    cases fl <;> simpa [SimL] using this
  · rw [hl] at hx
    simp only [SimV] at hx
    obtain ⟨ar, hv, hsz, hs⟩ := hx
    refine ok_newvar hrun hf h hd (fl := fl) (cs := l) ?_ hr hK
    rw [hv]
    unfold SimR
    have := cellOk_simL hok hs
    cases fl <;> simpa [Value.cells] using this
theorem fill_foldl (off : Nat) : ∀ (l : List Value) (k : Nat) (cells : Array Value), off + k + l.length ≤ cells.size →
    ((l.zipIdx k).foldl (fun (cs : Array Value) (p : Value × Nat) => cs.setIfInBounds (off + p.2) p.1) cells).toList = cells.toList.take (off + k) ++ l ++ cells.toList.drop (off + k + l.length)
  | [], k, cells, h => by simp
  | v :: l, k, cells, h => by
    simp only [List.length_cons] at h
    rw [List.zipIdx_cons, List.foldl_cons, fill_foldl off l (k + 1) _ (by simp; omega)]
    simp only [Array.toList_setIfInBounds]
    apply List.ext_getElem?
    intro j
    simp only [List.getElem?_append, List.length_append, List.length_take, List.length_set, Array.length_toList, List.getElem?_take, List.getElem?_set, List.getElem?_drop, List.length_cons, List.getElem?_cons]
    by_cases h1 : j < off + k
    · have e1 : j < min (off + (k + 1)) cells.size := by omega
      have e2 : j < min (off + k) cells.size := by omega
      have e3 : j < off + (k + 1) := by omega
      have e4 : ¬ off + k = j := by omega
      have e5 : j < min (off + (k + 1)) cells.size + l.length := by omega
      have e6 : j < min (off + k) cells.size + (l.length + 1) := by omega
      simp [e1, e2, e3, e4, e5, e6, h1]
    · by_cases h2 : j = off + k
      · subst h2
        have e1 : off + k < min (off + (k + 1)) cells.size := by omega
        have e2 : ¬ off + k < min (off + k) cells.size := by omega
        have e3 : off + k < off + (k + 1) := by omega
        have e5 : off + k < min (off + (k + 1)) cells.size + l.length := by omega
        have e6 : off + k < min (off + k) cells.size + (l.length + 1) := by omega
        have e7 : off + k - min (off + k) cells.size = 0 := by omega
        have e8 : off + k < cells.size := by omega
        simp [e1, e2, e3, e5, e6, e7, e8]
      · have e1 : ¬ j < min (off + (k + 1)) cells.size := by omega
        have e2 : ¬ j < min (off + k) cells.size := by omega
        have e7 : ¬ j - min (off + k) cells.size = 0 := by omega
        have e9 : j - min (off + k) cells.size - 1 = j - min (off + (k + 1)) cells.size := by omega
        by_cases h3 : j < off + (k + 1) + l.length
        · have e5 : j < min (off + (k + 1)) cells.size + l.length := by omega
          have e6 : j < min (off + k) cells.size + (l.length + 1) := by omega
          simp [e1, e2, e5, e6, e7, e9]
        · have e5 : ¬ j < min (off + (k + 1)) cells.size + l.length := by omega
          have e6 : ¬ j < min (off + k) cells.size + (l.length + 1) := by omega
          have e10 : ¬ off + k = off + (k + 1) + l.length + (j - (min (off + (k + 1)) cells.size + l.length)) := by omega
          have e11 : off + (k + 1) + l.length + (j - (min (off + (k + 1)) cells.size + l.length)) = off + k + (l.length + 1) + (j - (min (off + k) cells.size + (l.length + 1))) := by omega
          simp [e5, e6, e10]
          rw [e11]
theorem fill_one (off : Nat) (v : Value) (cells : Array Value) (h : off + v.cells.size ≤ cells.size) :
    (v.cells.zipIdx.foldl (fun (cs : Array Value) (p : Value × Nat) => cs.setIfInBounds (off + p.2) p.1) cells).toList = cells.toList.take off ++ v.cells.toList ++ cells.toList.drop (off + v.cells.size) := by
  have := fill_foldl off v.cells.toList 0 cells (by simpa using h)
  rw [← Array.foldl_toList, Array.toList_zipIdx]
  simpa using this
theorem fill_sim {z : Nat} {fl : Bool} {D : Ctx} (hD : D = if fl then (ctx w0 w ro phi s).out else ctx w0 w ro phi s) (h : Sim w0 mu N s a.tmps w phi ro) :
    ∀ (parts : List (Nat × Operand)) (cs out : List AV) (cells : Array Value), afill s z fl cs (parts.map fun p => (p.1, opd p.2)) out → SimL cs D cells.toList → cells.size = cs.length →
      ∃ cells', Instr.fill (fun i => some (i * z, z)) cells (parts.map fun p => (p.1, a.eval p.2)) = some cells' ∧ SimL out D cells'.toList ∧ cells'.size = out.length
  | [], cs, out, cells, hfill, hs, hsz => by
    simp only [List.map_nil, afill] at hfill
    subst hfill
    exact ⟨cells, by simp [Instr.fill], hs, hsz⟩
  | (i, x) :: parts, cs, out, cells, hfill, hs, hsz => by
    simp only [List.map_cons, afill] at hfill
    have hx := h.ev x
    have step : ∀ (cs' : List AV), afill s z fl cs' (parts.map fun p => (p.1, opd p.2)) out → (a.eval x).cells.size = z → i * z + z ≤ cells.size →
        SimL cs' D (cells.toList.take (i * z) ++ (a.eval x).cells.toList ++ cells.toList.drop (i * z + z)) → cs'.length = cells.size →
        ∃ cells', Instr.fill (fun i => some (i * z, z)) cells (((i, x) :: parts).map fun p => (p.1, a.eval p.2)) = some cells' ∧ SimL out D cells'.toList ∧ cells'.size = out.length := by
      intro cs' hf' hz hle hs' hl'
      have h1 := fill_one (i * z) (a.eval x) cells (by omega)
      rw [hz] at h1
      have hs'' : SimL cs' D ((a.eval x).cells.zipIdx.foldl (fun (cs : Array Value) (p : Value × Nat) => cs.setIfInBounds (i * z + p.2) p.1) cells).toList := by rw [h1]; exact hs'
      have hsz' : ((a.eval x).cells.zipIdx.foldl (fun (cs : Array Value) (p : Value × Nat) => cs.setIfInBounds (i * z + p.2) p.1) cells).size = cs'.length := by
        rw [← Array.length_toList, h1]; simp; omega
      obtain ⟨cells', g1, g2⟩ := fill_sim hD h parts cs' out _ hf' hs'' hsz'
      refine ⟨cells', ?_, g2⟩
      simp only [List.map_cons, Instr.fill]
      rw [if_neg (by simp [hz]; omega)]
      exact g1
    rcases hfill with ⟨hz, hi, hok, hf'⟩ | ⟨l, hl, hll, hle, hok, hf'⟩
    · have h1 := cellOk_one hok hx
      have hcells : (a.eval x).cells = #[a.eval x] := by
        generalize a.eval x = v at h1
        cases v <;> first | rfl | (simp [Value.oneCell'] at h1)
      refine step _ hf' (by rw [hcells, hz]; rfl) (by rw [hz]; omega) ?_ (by simp [hsz])
      have hset : cells.toList.take (i * z) ++ (a.eval x).cells.toList ++ cells.toList.drop (i * z + z) = cells.toList.set i (a.eval x) := by
        rw [List.set_eq_take_append_cons_drop, if_pos (by simp; omega), hcells, hz]
        simp
      rw [hset]
      exact SimL.set hs (hD ▸ cellOk_sim hok hx) hi
    · rw [hl] at hx
      simp only [SimV] at hx
      obtain ⟨ar, hv, hsz2, hs2⟩ := hx
      refine step _ hf' (by rw [hv]; simp [Value.cells, hsz2, hll]) (by omega) ?_ (by simp; omega)
      have hs2' : SimL l D ar.toList := hD ▸ cellOk_simL hok hs2
      have ht : SimL (cs.take (i * z)) D (cells.toList.take (i * z)) := (SimL.take (i * z) hs).shorter _ (by simp; omega)
      have := (ht.append (by simp; omega) hs2').append (by simp; omega) (hs.drop (i * z + z))
      rw [hv]
      exact this
theorem ok_bsl {t e : TypeId} {n : Nat} {parts : Array (Nat × Operand)} {i : TypeInfo} {z : Value} (ho : o.op = .buildSlice t n parts) (ht : P.underlying t = some (.slice e)) (hi : P.info? e = some i) (hz : i.zero = some z)
    (hzs : z.cells.size = i.size) (hn : n * i.size ≤ 16777216) (hpos : 0 < i.size)
    (hf : a.defers = []) (h : Sim w0 mu N s a.tmps w phi ro) (hd : ∀ k, o.dst = some k → k < N)
    (hK : aexec P own (.bsl i.size n z.cells.toList (parts.toList.map fun p => (p.1, opd p.2))) o.dst s K) : o.wp P a w (After w0 mu N K) Q := by
  obtain ⟨r, fl, out, hr, hfill, hK⟩ := hK
  have hflat : madeCells z.cells (n * i.size) = ((List.replicate n z.cells.toList).flatten).toArray := by
    have := made_flat z.cells.toList n
    rw [Array.length_toList, hzs] at this
    simpa using this
  obtain ⟨cells', g1, g2, g3⟩ := fill_sim (z := i.size) (fl := fl) rfl h parts.toList _ out (((List.replicate n z.cells.toList).flatten).toArray) hfill
    (by
      have := replicate_flatten_prefix (C := if fl then (ctx w0 w ro phi s).out else ctx w0 w ro phi s) z.cells.toList n n (Nat.le_refl _)
      simpa using this)
    (by simp)
  have hmade : (Array.range (n * i.size)).map (z.cells[· % z.cells.size]!) = ((List.replicate n z.cells.toList).flatten).toArray := hflat
  have hrun : (execOp a.eval o).run P w = .ok (.value (.slice (some ⟨w.heap.size, 0, none⟩) n n)) (w.alloc (.cells cells' e)) := by
    have hno : ¬ (16777216 < n * i.size) := by omega
    have hp : (parts.map fun x => (x.1, a.eval x.2)).toList = parts.toList.map fun p => (p.1, a.eval p.2) := by simp
    by_cases hz0 : n * i.size = 0
    · have he : ((List.replicate n z.cells.toList).flatten).toArray = #[] := by rw [← hflat, hz0]; simp [madeCells]
      rw [he] at g1
      simp [execOp, ho, Instr.buildSlice, run_underlying ht, sizeOf, typeInfo, hi, hz0, newRow, Array.range_zero', g1]
    · simp [execOp, ho, Instr.buildSlice, run_underlying ht, sizeOf, typeInfo, hi, hno, hz0, zeroValue, hz, newRow, hmade, g1]
  have hsim : SimR (fl, out) (ctx w0 w ro phi s) cells'.toList := by unfold SimR; cases fl <;> exact g2
  obtain ⟨phi', hp, h1⟩ := h.new (More.alloc w _) r (Nat.lt_of_lt_of_le (hd r hr) h.npb) _ (Nat.le_refl _) (heap_alloc_new w (.cells _ e)) hsim
  refine wp_value hrun (After.put hf h1 hd ?_ hK)
  simp only [SimV]
  have hlen : out.length = n * i.size := by
    have key : ∀ (parts : List (Nat × Opd)) (cs out : List AV), afill s i.size fl cs parts out → out.length = cs.length := by
      intro parts
      induction parts with
      | nil => intro cs out hh; simp only [afill] at hh; rw [hh]
      | cons p parts ih =>
        intro cs out hh
        obtain ⟨j, x⟩ := p
        simp only [afill] at hh
        rcases hh with ⟨_, _, _, hh⟩ | ⟨l, _, hll, hle, _, hh⟩
        · rw [ih _ _ hh]; simp
        · rw [ih _ _ hh]; simp; omega
    rw [key _ _ _ hfill]
    simp [hzs]
  refine ⟨rfl, by simp [ctx, AS.mem], .inr ⟨_, 0, n, _, e, hp, rfl, heap_alloc_new w (.cells _ e), .inl rfl, Nat.le_refl _, ?_, by omega⟩⟩
  have : n ≤ n * i.size := Nat.le_mul_of_pos_right n hpos
  simp only [maxLen]
  omega
theorem simL_allv {C D : Ctx} : ∀ {cs : List AV} {ys : List Value}, cs.all plainV = true → SimL cs C ys → SimL cs D ys
  | [], _, _, _ => by simp [SimL]
  | _ :: _, [], _, h => by simp [SimL] at h
  | c :: cs, y :: ys, h, hs => by
    simp only [List.all_cons, Bool.and_eq_true, SimL] at h hs ⊢
    refine ⟨?_, simL_allv h.2 hs.2⟩
    cases c <;> simp [plainV] at h
    simpa [SimV] using hs.1
section
mutual
/-- From the caller's names to the callee's. -/
theorem simV_in (q : Bool) (f : Nat → Nat) (C D : Ctx) (h1 : C.heap = D.heap) (h2 : q = true → ∀ b, D.ro b → C.ro b) (h3 : D.loc = true → C.loc = true) (h4 : D.loc = true → ∀ r, C.live r = true → C.phi r = D.phi (f r)) :
    ∀ (x : AV) (y : Value), ownV q x = true → refsV C.live x = true → SimV (renV f x) D y → SimV x C y
  | .any, _, _, _, _ => by simp [SimV]
  | .v x, _, _, _, h => by simpa [SimV, renV] using h
  | .ro fr z cs n, y, ho, _, h => by
    simp only [ownV, Bool.and_eq_true, Bool.not_eq_true'] at ho
    obtain ⟨⟨hq, rfl⟩, hall⟩ := ho
    simp only [SimV, renV] at h ⊢
    rcases h with h | ⟨b, o, cap, cur, e, fz, k1, k2, k3, k4, k5, _, k6⟩
    · exact .inl ⟨h.1, h.2.1, by obtain ⟨a, c, hc, _⟩ := h.2.2; exact ⟨a, c, hc, by simp⟩⟩
    · exact .inr ⟨b, o, cap, cur, e, fz, k1, by rw [h1]; exact k2, h2 hq b k3, k4, k5, by simp, simL_allv hall k6⟩
  | .rp cs, _, ho, _, _ => by simp [ownV] at ho
  | .ob _, _, _, _, h => by simp [SimV, renV] at h
  | .fn g l k, y, ho, hr, h => by
    simp only [SimV, renV, ownV, refsV] at h ho hr ⊢
    obtain ⟨a, b, k1, k2, k3, k4⟩ := h
    rw [renL_map, List.length_map] at k3
    exact ⟨a, b, k1, k2, k3, simL_in q f C D h1 h2 h3 h4 l _ ho hr k4⟩
  | .fu _ _ _, _, ho, _, _ => by simp [ownV] at ho
  | .mit _ _ _ _ _, _, ho, _, _ => by simp [ownV] at ho
  | .rmp fr es clock, y, ho, _, h => by
    simp only [ownV, Bool.and_eq_true, Bool.not_eq_true'] at ho
    obtain ⟨hq, rfl⟩ := ho
    simp only [SimV, renV] at h ⊢
    obtain ⟨b, k1, k2, k3, _⟩ := h
    exact ⟨b, k1, by rw [h1]; exact k2, h2 hq b k3, fun e => by cases e⟩
  | .mp r, y, _, hr, h => by
    simp only [SimV, renV, refsV] at h hr ⊢
    obtain ⟨k1, k2, b, k3, k4⟩ := h
    exact ⟨h3 k1, hr, b, by rw [h4 k1 r hr]; exact k3, k4⟩
  | .itr r, y, _, hr, h => by
    simp only [SimV, renV, refsV] at h hr ⊢
    obtain ⟨k1, k2, b, k3, k4⟩ := h
    exact ⟨h3 k1, hr, b, by rw [h4 k1 r hr]; exact k3, k4⟩
  | .sl r z off n, y, _, hr, h => by
    simp only [SimV, renV, refsV] at h hr ⊢
    obtain ⟨k1, k2, k3⟩ := h
    refine ⟨h3 k1, hr, ?_⟩
    rw [h4 k1 r hr, h1]
    exact k3
  | .pt r off, y, _, hr, h => by
    simp only [SimV, renV, refsV] at h hr ⊢
    obtain ⟨k1, k2, b, k3, k4⟩ := h
    exact ⟨h3 k1, hr, b, by rw [h4 k1 r hr]; exact k3, by rw [h1]; exact k4⟩
  | .agg l, y, ho, hr, h => by
    simp only [SimV, renV, ownV, refsV] at h ho hr ⊢
    obtain ⟨a, k1, k2, k3⟩ := h
    rw [renL_map, List.length_map] at k2
    exact ⟨a, k1, k2, simL_in q f C D h1 h2 h3 h4 l _ ho hr k3⟩
  | .tup l, y, ho, hr, h => by
    simp only [SimV, renV, ownV, refsV] at h ho hr ⊢
    obtain ⟨a, k1, k2, k3⟩ := h
    rw [renL_map, List.length_map] at k2
    exact ⟨a, k1, k2, simL_in q f C D h1 h2 h3 h4 l _ ho hr k3⟩
theorem simL_in (q : Bool) (f : Nat → Nat) (C D : Ctx) (h1 : C.heap = D.heap) (h2 : q = true → ∀ b, D.ro b → C.ro b) (h3 : D.loc = true → C.loc = true) (h4 : D.loc = true → ∀ r, C.live r = true → C.phi r = D.phi (f r)) :
    ∀ (l : List AV) (ys : List Value), ownL q l = true → refsL C.live l = true → SimL (renL f l) D ys → SimL l C ys
  | [], _, _, _, _ => by simp [SimL]
  | _ :: _, [], _, _, h => by simp [SimL, renL] at h
  | a :: l, y :: ys, ho, hr, h => by
    simp only [SimL, renL, ownL, refsL, Bool.and_eq_true] at h ho hr ⊢
    exact ⟨simV_in q f C D h1 h2 h3 h4 a y ho.1 hr.1 h.1, simL_in q f C D h1 h2 h3 h4 l ys ho.2 hr.2 h.2⟩
end
mutual
/-- From the callee's names to the caller's. -/
theorem simV_out (f : Nat → Nat) (C D : Ctx) (h1 : C.heap = D.heap) (h3 : C.loc = true → D.loc = true) (h4 : C.loc = true → ∀ r, C.live r = true → D.live (f r) = true ∧ D.phi (f r) = C.phi r) :
    ∀ (x : AV) (y : Value), ownV false x = true → SimV x C y → SimV (renV f x) D y
  | .any, _, _, _ => by simp [SimV, renV]
  | .v x, _, _, h => by simpa [SimV, renV] using h
  | .ro fr z cs n, y, ho, h => by simp [ownV] at ho
  | .rp cs, _, ho, _ => by simp [ownV] at ho
  | .ob _, _, _, h => by simp [SimV] at h
  | .fn g l k, y, ho, h => by
    simp only [SimV, renV, ownV] at h ho ⊢
    obtain ⟨a, b, k1, k2, k3, k4⟩ := h
    exact ⟨a, b, k1, k2, by rw [renL_map, List.length_map]; exact k3, simL_out f C D h1 h3 h4 l _ ho k4⟩
  | .rmp fr es clock, y, ho, _ => by simp [ownV] at ho
  | .fu _ _ _, y, ho, _ => by simp [ownV] at ho
  | .mit _ _ _ _ _, y, ho, _ => by simp [ownV] at ho
  | .mp r, y, _, h => by
    simp only [SimV, renV] at h ⊢
    obtain ⟨k1, k2, b, k3, k4⟩ := h
    obtain ⟨k5, k6⟩ := h4 k1 r k2
    exact ⟨h3 k1, k5, b, by rw [k6]; exact k3, k4⟩
  | .itr r, y, _, h => by
    simp only [SimV, renV] at h ⊢
    obtain ⟨k1, k2, b, k3, k4⟩ := h
    obtain ⟨k5, k6⟩ := h4 k1 r k2
    exact ⟨h3 k1, k5, b, by rw [k6]; exact k3, k4⟩
  | .sl r z off n, y, _, h => by
    simp only [SimV, renV] at h ⊢
    obtain ⟨k1, k2, k3⟩ := h
    obtain ⟨k4, k5⟩ := h4 k1 r k2
    refine ⟨h3 k1, k4, ?_⟩
    rw [k5, ← h1]
    exact k3
  | .pt r off, y, _, h => by
    simp only [SimV, renV] at h ⊢
    obtain ⟨k1, k2, b, k3, k4⟩ := h
    obtain ⟨k5, k6⟩ := h4 k1 r k2
    exact ⟨h3 k1, k5, b, by rw [k6]; exact k3, by rw [← h1]; exact k4⟩
  | .agg l, y, ho, h => by
    simp only [SimV, renV, ownV] at h ho ⊢
    obtain ⟨a, k1, k2, k3⟩ := h
    exact ⟨a, k1, by rw [renL_map, List.length_map]; exact k2, simL_out f C D h1 h3 h4 l _ ho k3⟩
  | .tup l, y, ho, h => by
    simp only [SimV, renV, ownV] at h ho ⊢
    obtain ⟨a, k1, k2, k3⟩ := h
    exact ⟨a, k1, by rw [renL_map, List.length_map]; exact k2, simL_out f C D h1 h3 h4 l _ ho k3⟩
theorem simL_out (f : Nat → Nat) (C D : Ctx) (h1 : C.heap = D.heap) (h3 : C.loc = true → D.loc = true) (h4 : C.loc = true → ∀ r, C.live r = true → D.live (f r) = true ∧ D.phi (f r) = C.phi r) :
    ∀ (l : List AV) (ys : List Value), ownL false l = true → SimL l C ys → SimL (renL f l) D ys
  | [], _, _, _ => by simp [SimL, renL]
  | _ :: _, [], _, h => by simp [SimL] at h
  | a :: l, y :: ys, ho, h => by
    simp only [SimL, renL, ownL, Bool.and_eq_true] at h ho ⊢
    exact ⟨simV_out f C D h1 h3 h4 a y ho.1 h.1, simL_out f C D h1 h3 h4 l ys ho.2 h.2⟩
end
theorem simR_in {q : Bool} {f : Nat → Nat} {C D : Ctx} (h1 : C.heap = D.heap) (h2 : q = true → ∀ b, D.ro b → C.ro b) (h3 : D.loc = true → C.loc = true) (h4 : D.loc = true → ∀ r, C.live r = true → C.phi r = D.phi (f r)) {c : Bool × List AV} {ys : List Value}
    (ho : ownL q c.2 = true) (hr : refsL C.live c.2 = true) (h : SimR (renR f c) D ys) : SimR c C ys := by
  obtain ⟨fl, cs⟩ := c
  cases fl
  · simp only [SimR, renR, Bool.false_eq_true, if_false] at h ⊢
    exact simL_in q f C D h1 h2 h3 h4 cs ys ho hr h
  · simp only [SimR, renR, if_true] at h ⊢
    exact simL_in q f C.out D.out h1 h2 (fun e => by simp [Ctx.out] at e) (fun e => by simp [Ctx.out] at e) cs ys ho hr h
theorem simR_out {f : Nat → Nat} {C D : Ctx} (h1 : C.heap = D.heap) (h3 : C.loc = true → D.loc = true) (h4 : C.loc = true → ∀ r, C.live r = true → D.live (f r) = true ∧ D.phi (f r) = C.phi r) {c : Bool × List AV} {ys : List Value}
    (ho : ownL false c.2 = true) (h : SimR c C ys) : SimR (renR f c) D ys := by
  obtain ⟨fl, cs⟩ := c
  cases fl
  · simp only [SimR, renR, Bool.false_eq_true, if_false] at h ⊢
    exact simL_out f C D h1 h3 h4 cs ys ho h
  · simp only [SimR, renR, if_true] at h ⊢
    exact simL_out f C.out D.out h1 (fun e => by simp [Ctx.out] at e) (fun e => by simp [Ctx.out] at e) cs ys ho h
theorem renL_one {f : Nat → Nat} : ∀ {l : List AV} {o : Obj}, renL f l = [.ob o] → l = [.ob o]
  | [], _, h => by simp [renL] at h
  | [a], o, h => by
    simp only [renL, List.cons.injEq, and_true] at h
    cases a <;> simp only [renV] at h <;> first | (cases h; done) | (injection h with h; rw [h])
  | a :: b :: l, o, h => by simp [renL] at h
theorem renR_ob {f : Nat → Nat} {c : Bool × List AV} {o : Obj} (h : renR f c = (true, [.ob o])) : c = (true, [.ob o]) := by
  obtain ⟨fl, cs⟩ := c
  simp only [renR, Prod.mk.injEq] at h
  rw [h.1, renL_one h.2]
/-- The caller's state behind such a call. -/
theorem lent_after {f : FuncId} {s : AS} {w0 w : World} {mu : Nat → Option Nat} {tm : Array Value} {phi : Nat → Option Nat} {ro : Nat → Prop} (h : Sim w0 mu N s tm w phi ro) {g : Nat → Nat} {asx : List AV} {hin : Hp} {ι : Type} {ok : ι → Prop} {res : ι → AV} {hout hp' : ι → Hp}
    (hs : SpX P f asx hin ok res hout) (hne : ∃ i, ok i) (LA : ∀ i, ok i → Lent s g hin (hout i) (hp' i) (res i)) {vs : Array Value} (hv : SimL asx (ctxE w (fun r => phi (g r)) hin) vs.toList) (hl : vs.size = asx.length) :
    Calls P f vs w fun x w' => ∃ i, ok i ∧ ∃ v phi', x = .returned v ∧ Sim w0 mu N ⟨s.tm, hp' i⟩ tm w' phi' ro ∧ SimV (renV g (res i)) (ctx w0 w' ro phi' ⟨s.tm, hp' i⟩) v := by
  obtain ⟨i0, hi0⟩ := hne
  have L := LA i0 hi0
  have hlv : ∀ r, (hin r).isSome = true → (s.hp (g r)).isSome = true := by
    intro r hr
    obtain ⟨c, hc⟩ := Option.isSome_iff_exists.1 hr
    rw [L.has r c hc]; rfl
  have hro : ∀ b, (ctx w0 w ro phi s).ro b → (ctxE w (fun r => phi (g r)) hin).ro b := by
    intro b hb
    refine ⟨h.rob b hb, fun r hr hp => ?_⟩
    obtain ⟨c, hc⟩ := Option.isSome_iff_exists.1 hr
    rcases h.liv _ _ (L.has r c hc) with ⟨h1, _⟩ | ⟨b', _, _, h1, _, h2, _⟩ | ⟨b', _, _, h1, _, _, h2, _⟩
    · have hp' : phi (g r) = some b := hp
      rw [h1] at hp'; cases hp'
    · have hp' : phi (g r) = some b := hp
      rw [h1] at hp'; cases hp'
      exact h2 hb
    · have hp' : phi (g r) = some b := hp
      rw [h1] at hp'; cases hp'
      exact h2 hb
  have hinj0 : ∀ r r', (hin r).isSome = true → (hin r').isSome = true → g r = g r' → r = r' := fun r r' h1 h2 => L.inj r r' (L.stay r h1) (L.stay r' h2)
  refine (hs w vs (fun r => phi (g r)) h.goodW (fun r b hr hp => by obtain ⟨c, hc⟩ := Option.isSome_iff_exists.1 hr; exact h.regGood (L.has r c hc) hp) ?_ ?_ ?_ hl).mono fun x w' hpost => ?_
  · intro r r' b h1 h2 h3 h4
    exact hinj0 r r' h1 h2 (h.inj _ _ b (hlv r h1) (hlv r' h2) h3 h4)
  · intro r c hc
    obtain ⟨ho, hrf⟩ := L.ownI r c hc
    rcases h.liv _ _ (L.has r c hc) with ⟨h1, h2, _⟩ | ⟨b, cur, e, h1, h2, _, _, h5⟩ | ⟨b, o, h0, h1, h2, h3, _⟩
    · refine .inl ⟨h1, ?_⟩
      obtain ⟨fl, cs⟩ := c
      simp only [renR, renL_map] at h2
      exact List.map_eq_nil_iff.1 h2
    case inr.inr => exact .inr (.inr ⟨b, o, renR_ob h0, h1, h2, h3⟩)
    · refine .inr (.inl ?_)
      exact ⟨b, cur, e, h1, h2, simR_in (q := true) (C := ctxE w (fun r => phi (g r)) hin) (D := ctx w0 w ro phi s) rfl (fun _ => hro) (fun _ => rfl) (fun _ r _ => rfl) ho hrf h5⟩
  · exact hv
  obtain ⟨i, hi, v, phi', rfl, hos, htape, hout', hsize, hsame, hkept, hshp, hinj, hnew, hregs, hres⟩ := hpost
  refine ⟨i, hi, ?_⟩
  clear L
  have L := LA i hi
  clear LA hs
  generalize hout i = hout at *
  generalize hp' i = hp' at *
  generalize res i = res at *
  have hnone : ∀ r, ¬ (hin r).isSome = true → hin r = none := fun r hr => by
    cases hh : hin r with
    | none => rfl
    | some c => rw [hh] at hr; simp at hr
  classical
  let phiD : Nat → Option Nat := fun q => if hq : ∃ r, (hout r).isSome = true ∧ g r = q then phi' hq.choose else phi q
  have hphi : ∀ r, (hout r).isSome = true → phiD (g r) = phi' r := by
    intro r hr
    have hq : ∃ r', (hout r').isSome = true ∧ g r' = g r := ⟨r, hr, rfl⟩
    show (if hq : ∃ r', (hout r').isSome = true ∧ g r' = g r then phi' hq.choose else phi (g r)) = _
    rw [dif_pos hq, L.inj _ _ hq.choose_spec.1 hr hq.choose_spec.2]
  have hphiO : ∀ q, (∀ r, (hout r).isSome = true → g r ≠ q) → phiD q = phi q := by
    intro q hq
    show (if hq : ∃ r', (hout r').isSome = true ∧ g r' = q then phi' hq.choose else phi q) = _
    rw [dif_neg]
    rintro ⟨r, h1, h2⟩
    exact hq r h1 h2
  have hphiS : ∀ q, (s.hp q).isSome = true → phiD q = phi q := by
    intro q hq
    by_cases hx : ∃ r, (hout r).isSome = true ∧ g r = q
    · obtain ⟨r, h1, rfl⟩ := hx
      rw [hphi r h1]
      by_cases hi : (hin r).isSome = true
      · exact hsame r hi
      · rw [(L.fresh r h1 (hnone r hi)).1] at hq; simp at hq
    · exact hphiO q fun r h1 h2 => hx ⟨r, h1, h2⟩
  have hlive : ∀ q, (s.hp q).isSome = true → (hp' q).isSome = true := by
    intro q hq
    by_cases hx : ∃ r, (hout r).isSome = true ∧ g r = q
    · obtain ⟨r, h1, rfl⟩ := hx
      obtain ⟨c, hc⟩ := Option.isSome_iff_exists.1 h1
      rw [L.new r c hc]; rfl
    · rw [L.old q fun r h1 h2 => hx ⟨r, h1, h2⟩]; exact hq
  -- blocks that a region of the caller's, not lent, has are asx they were
  have hlentb : ∀ r b, (hin r).isSome = true → phi (g r) = some b → b < w.heap.size := by
    intro r b hr hp
    obtain ⟨c, hc⟩ := Option.isSome_iff_exists.1 hr
    rcases h.liv _ _ (L.has r c hc) with ⟨h1, _⟩ | ⟨b', _, _, h1, h2, _⟩ | ⟨b', _, _, h1, h2, _⟩
    · rw [h1] at hp; cases hp
    · rw [h1] at hp; cases hp; exact lt_of_get h2
    · rw [h1] at hp; cases hp; exact lt_of_get h2
  have hle : (ctx w0 w ro phi s).Le (ctx w0 w' ro phiD ⟨s.tm, hp'⟩) := by
    refine ⟨fun b hb => ⟨hb, hkept b (h.rob b hb) (hro b hb).2⟩, Nat.le_refl _, id, fun _ q _ hl => ⟨hlive q hl, hphiS q hl⟩, fun _ q b cur e _ _ _ hb => ?_⟩
    obtain ⟨cur', k1, k2⟩ := hshp b cur e (0, 0) hb
    exact ⟨cur', k1, by omega⟩
  have hD : ∀ r, (ctxX w w' phi' hout).live r = true → (ctx w0 w' ro phiD ⟨s.tm, hp'⟩).live (g r) = true ∧ (ctx w0 w' ro phiD ⟨s.tm, hp'⟩).phi (g r) = (ctxX w w' phi' hout).phi r := by
    intro r hr
    obtain ⟨c, hc⟩ := Option.isSome_iff_exists.1 hr
    refine ⟨?_, hphi r hr⟩
    show (hp' (g r)).isSome = true
    rw [L.new r c hc]; rfl
  have hb0 : ∀ r b, (hout r).isSome = true → phi' r = some b → (hin r).isSome = true ∧ phi (g r) = some b ∨ hin r = none ∧ w.heap.size ≤ b := by
    intro r b hr hp
    by_cases hi : (hin r).isSome = true
    · exact .inl ⟨hi, by rw [← hsame r hi]; exact hp⟩
    · exact .inr ⟨hnone r hi, hnew r b hr (hnone r hi) hp⟩
  refine ⟨v, phiD, rfl, ?_, simV_out g (ctxX w w' phi' hout) (ctx w0 w' ro phiD ⟨s.tm, hp'⟩) rfl (fun _ => rfl) (fun _ => hD) res v L.ownR hres⟩
  -- each region of the state behind: of the callee's, or an old one
  have hcase : ∀ q, (hp' q).isSome = true → (∃ r, (hout r).isSome = true ∧ g r = q) ∨ ((∀ r, (hout r).isSome = true → g r ≠ q) ∧ (s.hp q).isSome = true) := by
    intro q hq
    by_cases hx : ∃ r, (hout r).isSome = true ∧ g r = q
    · exact .inl hx
    · have hn : ∀ r, (hout r).isSome = true → g r ≠ q := fun r h1 h2 => hx ⟨r, h1, h2⟩
      exact .inr ⟨hn, by rw [← L.old q hn]; exact hq⟩
  have holdb : ∀ q b, (s.hp q).isSome = true → phi q = some b → b < w.heap.size := by
    intro q b hq hp
    obtain ⟨c, hc⟩ := Option.isSome_iff_exists.1 hq
    rcases h.liv q c hc with ⟨h1, _⟩ | ⟨b', _, _, h1, h2, _⟩ | ⟨b', _, _, h1, h2, _⟩
    · rw [h1] at hp; cases hp
    · rw [h1] at hp; cases hp; exact lt_of_get h2
    · rw [h1] at hp; cases hp; exact lt_of_get h2
  exact {
    os := hos.trans h.os, tape := htape.trans h.tape, output := hout'.trans h.output, size := Nat.le_trans h.size hsize
    kept := fun b hb hmu => by
      refine (hkept b (Nat.lt_of_lt_of_le hb h.size) fun r hr hp => ?_).trans (h.kept b hb hmu)
      obtain ⟨c, hc⟩ := Option.isSome_iff_exists.1 hr
      have hp' : phi (g r) = some b := hp
      rcases h.liv _ _ (L.has r c hc) with ⟨h1, _⟩ | ⟨b', _, _, h1, _, _, h2, _⟩ | ⟨b', _, _, h1, _, _, _, h2⟩
      · rw [h1] at hp'; cases hp'
      · rw [h1] at hp'; cases hp'
        rcases h2 with ⟨_, h2 | ⟨r', _, h2⟩⟩ | h2
        · omega
        · exact hmu _ h2
        · exact hmu _ h2.2
      · rw [h1] at hp'; cases hp'
        rcases h2 with ⟨_, h2 | ⟨r', _, h2⟩⟩ | h2
        · omega
        · exact hmu _ h2
        · exact hmu _ h2.2
    shp := fun b cur e f hb => by
      obtain ⟨c1, g1, g2⟩ := h.shp b cur e f hb
      obtain ⟨c2, g3, g4⟩ := hshp b c1 e f g1
      exact ⟨c2, g3, by omega⟩
    npb := h.npb
    gd := h.gd
    rob := fun b hb => Nat.lt_of_lt_of_le (h.rob b hb) hsize
    inj := fun q q' b hq hq' h1 h2 => by
      rcases hcase q hq with ⟨r, hr, rfl⟩ | ⟨hn, hs1⟩
      · rw [hphi r hr] at h1
        rcases hcase q' hq' with ⟨r', hr', rfl⟩ | ⟨hn', hs1'⟩
        · rw [hphi r' hr'] at h2
          rw [hinj r r' b hr hr' h1 h2]
        · have h2' : phi q' = some b := by rw [← hphiO q' hn']; exact h2
          rcases hb0 r b hr h1 with ⟨hi, hp⟩ | ⟨hi, hge⟩
          · exact absurd (h.inj _ _ b (hlv r hi) hs1' hp h2') (hn' r hr)
          · have := holdb q' b hs1' h2'; omega
      · have h1' : phi q = some b := by rw [← hphiO q hn]; exact h1
        rcases hcase q' hq' with ⟨r', hr', rfl⟩ | ⟨hn', hs1'⟩
        · rw [hphi r' hr'] at h2
          rcases hb0 r' b hr' h2 with ⟨hi, hp⟩ | ⟨hi, hge⟩
          · exact absurd (h.inj _ _ b hs1 (hlv r' hi) h1' hp).symm (hn r' hr')
          · have := holdb q b hs1 h1'; omega
        · exact h.inj q q' b hs1 hs1' h1' (by rw [← hphiO q' hn']; exact h2)
    liv := fun q c hc => by
      rcases hcase q (by have hc1 : hp' q = some c := hc
                         rw [hc1]; rfl) with ⟨r, hr, rfl⟩ | ⟨hn, hs1⟩
      · obtain ⟨c0, hc0⟩ := Option.isSome_iff_exists.1 hr
        have hcc : renR g c0 = c := by
          have h1 : hp' (g r) = some c := hc
          rw [L.new r c0 hc0] at h1
          cases h1; rfl
        subst hcc
        have hsz : ∀ cs : List AV, cs = [] → renL g cs = [] := fun cs e => by rw [e]; simp [renL]
        have hnb : ∀ b, phi' r = some b → ¬ ro b := by
          intro b h1 hb
          rcases hb0 r b hr h1 with ⟨hi, hp⟩ | ⟨hi, hge⟩
          · exact (hro b hb).2 r hi hp
          · have := h.rob b hb; omega
        have hown : ∀ b, phi' r = some b → (g r < pbase ∧ Mine w0 mu b ∨ pbase ≤ g r ∧ mu (g r) = some b) := by
          intro b h1
          rcases hb0 r b hr h1 with ⟨hi, hp⟩ | ⟨hi, hge⟩
          · obtain ⟨ci, hci⟩ := Option.isSome_iff_exists.1 hi
            rcases h.liv _ _ (L.has r ci hci) with ⟨k1, _⟩ | ⟨b', _, _, k1, _, _, k2, _⟩ | ⟨b', _, _, k1, _, _, _, k2⟩
            · rw [k1] at hp; cases hp
            · rw [k1] at hp; cases hp; exact k2
            · rw [k1] at hp; cases hp; exact k2
          · exact .inl ⟨(L.fresh r hr hi).2, .inl (Nat.le_trans h.size hge)⟩
        rcases hregs r c0 hc0 with ⟨h1, h2⟩ | ⟨b, cur, e, h1, h2, h3⟩ | ⟨b, o, rfl, h1, h2, h3⟩
        case inr.inr => exact .inr (.inr ⟨b, o, rfl, by rw [hphi r hr]; exact h1, h2, h3, hnb b h1, hown b h1⟩)
        · refine .inl ⟨by rw [hphi r hr]; exact h1, hsz _ h2, fun hge => ?_⟩
          by_cases hi : (hin r).isSome = true
          · obtain ⟨ci, hci⟩ := Option.isSome_iff_exists.1 hi
            rcases h.liv _ _ (L.has r ci hci) with ⟨k1, k2, k3⟩ | ⟨b', _, _, k1, _⟩ | ⟨b', _, _, k1, _⟩
            · exact k3 hge
            · have h1' : phi' r = none := h1
              rw [hsame r hi, k1] at h1'; cases h1'
            · have h1' : phi' r = none := h1
              rw [hsame r hi, k1] at h1'; cases h1'
          · have := (L.fresh r hr (hnone r hi)).2; omega
        · exact .inr (.inl ⟨b, cur, e, by rw [hphi r hr]; exact h1, h2, hnb b h1, hown b h1, simR_out (C := ctxX w w' phi' hout) (D := ctx w0 w' ro phiD ⟨s.tm, hp'⟩) rfl (fun _ => rfl) (fun _ => hD) (L.ownO r c0 hc0) h3⟩)
      · have hc' : s.hp q = some c := by rw [← L.old q hn]; exact hc
        rcases h.liv q c hc' with ⟨h1, h2, h3⟩ | ⟨b, cur, e, h1, h2, h3, h4, h5⟩ | ⟨b, o, h0, h1, h2, h3, h4, h5⟩
        · exact .inl ⟨by rw [hphiO q hn]; exact h1, h2, h3⟩
        · refine .inr (.inl ⟨b, cur, e, by rw [hphiO q hn]; exact h1, ?_, h3, h4, h5.mono hle⟩)
          rw [hkept b (lt_of_get h2) fun r hr hp => hn r (L.stay r hr) (h.inj _ _ b (hlv r hr) (by simp [hc']) hp h1)]
          exact h2
        · refine .inr (.inr ⟨b, o, h0, by rw [hphiO q hn]; exact h1, ?_, h3, h4, h5⟩)
          rw [hkept b (lt_of_get h2) fun r hr hp => hn r (L.stay r hr) (h.inj _ _ b (hlv r hr) (by simp [hc']) hp h1)]
          exact h2
    tms := fun t => SimV.mono _ _ _ _ hle (h.tms t)
    slots := h.slots }
/-- The caller's state behind a call that regions were given to. -/
theorem given_after {f : FuncId} {s : AS} {w0 w : World} {mu : Nat → Option Nat} {tm : Array Value} {phi : Nat → Option Nat} {ro : Nat → Prop} (h : Sim w0 mu N s tm w phi ro) {p : Nat → Bool} {g : Nat → Nat} {asx : List AV} {hin hout hp' : Hp} {res : AV}
    (hs : SpG P f asx hin res hout) (L : Given s p g hin hout hp' res) {vs : Array Value} (hv : SimL asx (ctxE w (fun r => phi (g r)) hin) vs.toList) (hl : vs.size = asx.length) :
    Calls P f vs w fun x w' => ∃ v phi', x = .returned v ∧ Sim w0 mu N ⟨(s.drop p).tm, hp'⟩ tm w' phi' ro ∧ SimV (renV g res) (ctx w0 w' ro phi' ⟨(s.drop p).tm, hp'⟩) v := by
  have h2 := h.dropP p
  have hsub : ∀ q, ((s.drop p).hp q).isSome = true → (s.hp q).isSome = true ∧ ¬ p q = true := by
    intro q hq
    by_cases hqp : p q = true
    · simp [AS.drop, hqp] at hq
    · exact ⟨by simpa [AS.drop, hqp] using hq, hqp⟩
  have hlv : ∀ r, (hin r).isSome = true → (s.hp (g r)).isSome = true := by
    intro r hr
    obtain ⟨c, hc⟩ := Option.isSome_iff_exists.1 hr
    rw [L.has r c hc]; rfl
  have hro : ∀ b, (ctx w0 w ro phi s).ro b → (ctxE w (fun r => phi (g r)) hin).ro b := by
    intro b hb
    refine ⟨h.rob b hb, fun r hr hp => ?_⟩
    obtain ⟨c, hc⟩ := Option.isSome_iff_exists.1 hr
    rcases h.liv _ _ (L.has r c hc) with ⟨h1, _⟩ | ⟨b', _, _, h1, _, h2, _⟩ | ⟨b', _, _, h1, _, _, h2, _⟩
    · have hp' : phi (g r) = some b := hp
      rw [h1] at hp'; cases hp'
    · have hp' : phi (g r) = some b := hp
      rw [h1] at hp'; cases hp'
      exact h2 hb
    · have hp' : phi (g r) = some b := hp
      rw [h1] at hp'; cases hp'
      exact h2 hb
  have hinj0 := L.injI
  refine (hs w vs (fun r => phi (g r)) h.goodW (fun r b hr hp => by obtain ⟨c, hc⟩ := Option.isSome_iff_exists.1 hr; exact h.regGood (L.has r c hc) hp) ?_ ?_ ?_ hl).mono fun x w' hpost => ?_
  · intro r r' b h1 h2 h3 h4
    exact hinj0 r r' h1 h2 (h.inj _ _ b (hlv r h1) (hlv r' h2) h3 h4)
  · intro r c hc
    obtain ⟨ho, hrf⟩ := L.ownI r c hc
    rcases h.liv _ _ (L.has r c hc) with ⟨h1, h2, _⟩ | ⟨b, cur, e, h1, h2, _, _, h5⟩ | ⟨b, o, h0, h1, h2, h3, _⟩
    · refine .inl ⟨h1, ?_⟩
      obtain ⟨fl, cs⟩ := c
      simp only [renR, renL_map] at h2
      exact List.map_eq_nil_iff.1 h2
    case inr.inr => exact .inr (.inr ⟨b, o, renR_ob h0, h1, h2, h3⟩)
    · refine .inr (.inl ?_)
      exact ⟨b, cur, e, h1, h2, simR_in (q := true) (C := ctxE w (fun r => phi (g r)) hin) (D := ctx w0 w ro phi s) rfl (fun _ => hro) (fun _ => rfl) (fun _ r _ => rfl) ho hrf h5⟩
  · exact hv
  obtain ⟨v, phi', rfl, hos, htape, hout', hsize, hsame, hkept, hshp, hinj, hnew, hregs, hres⟩ := hpost
  have hnone : ∀ r, ¬ (hin r).isSome = true → hin r = none := fun r hr => by
    cases hh : hin r with
    | none => rfl
    | some c => rw [hh] at hr; simp at hr
  classical
  let phiD : Nat → Option Nat := fun q => if hq : ∃ r, (hout r).isSome = true ∧ g r = q then phi' hq.choose else phi q
  have hphi : ∀ r, (hout r).isSome = true → phiD (g r) = phi' r := by
    intro r hr
    have hq : ∃ r', (hout r').isSome = true ∧ g r' = g r := ⟨r, hr, rfl⟩
    show (if hq : ∃ r', (hout r').isSome = true ∧ g r' = g r then phi' hq.choose else phi (g r)) = _
    rw [dif_pos hq, L.inj _ _ hq.choose_spec.1 hr hq.choose_spec.2]
  have hphiO : ∀ q, (∀ r, (hout r).isSome = true → g r ≠ q) → phiD q = phi q := by
    intro q hq
    show (if hq : ∃ r', (hout r').isSome = true ∧ g r' = q then phi' hq.choose else phi q) = _
    rw [dif_neg]
    rintro ⟨r, h1, h2⟩
    exact hq r h1 h2
  have hphiS : ∀ q, ((s.drop p).hp q).isSome = true → phiD q = phi q := by
    intro q hq
    by_cases hx : ∃ r, (hout r).isSome = true ∧ g r = q
    · obtain ⟨r, h1, rfl⟩ := hx
      rw [hphi r h1]
      by_cases hi : (hin r).isSome = true
      · exact hsame r hi (L.lt r h1)
      · rw [(L.fresh r h1 (hnone r hi)).1] at hq; simp at hq
    · exact hphiO q fun r h1 h2 => hx ⟨r, h1, h2⟩
  have hlive : ∀ q, ((s.drop p).hp q).isSome = true → (hp' q).isSome = true := by
    intro q hq
    by_cases hx : ∃ r, (hout r).isSome = true ∧ g r = q
    · obtain ⟨r, h1, rfl⟩ := hx
      obtain ⟨c, hc⟩ := Option.isSome_iff_exists.1 h1
      rw [L.new r c hc]; rfl
    · rw [L.old q fun r h1 h2 => hx ⟨r, h1, h2⟩]; exact hq
  -- blocks that a region of the caller's, not lent, has are asx they were
  have hlentb : ∀ r b, (hin r).isSome = true → phi (g r) = some b → b < w.heap.size := by
    intro r b hr hp
    obtain ⟨c, hc⟩ := Option.isSome_iff_exists.1 hr
    rcases h.liv _ _ (L.has r c hc) with ⟨h1, _⟩ | ⟨b', _, _, h1, h2, _⟩ | ⟨b', _, _, h1, h2, _⟩
    · rw [h1] at hp; cases hp
    · rw [h1] at hp; cases hp; exact lt_of_get h2
    · rw [h1] at hp; cases hp; exact lt_of_get h2
  have hle : (ctx w0 w ro phi (s.drop p)).Le (ctx w0 w' ro phiD ⟨(s.drop p).tm, hp'⟩) := by
    refine ⟨fun b hb => ⟨hb, hkept b (h.rob b hb) (hro b hb).2⟩, Nat.le_refl _, id, fun _ q _ hl => ⟨hlive q hl, hphiS q hl⟩, fun _ q b cur e _ _ _ hb => ?_⟩
    obtain ⟨cur', k1, k2⟩ := hshp b cur e (0, 0) hb
    exact ⟨cur', k1, by omega⟩
  have hD : ∀ r, (ctxX w w' phi' hout).live r = true → (ctx w0 w' ro phiD ⟨(s.drop p).tm, hp'⟩).live (g r) = true ∧ (ctx w0 w' ro phiD ⟨(s.drop p).tm, hp'⟩).phi (g r) = (ctxX w w' phi' hout).phi r := by
    intro r hr
    obtain ⟨c, hc⟩ := Option.isSome_iff_exists.1 hr
    refine ⟨?_, hphi r hr⟩
    show (hp' (g r)).isSome = true
    rw [L.new r c hc]; rfl
  have hb0 : ∀ r b, (hout r).isSome = true → phi' r = some b → (hin r).isSome = true ∧ phi (g r) = some b ∨ hin r = none ∧ (w.heap.size ≤ b ∨ ∃ r', gvb ≤ r' ∧ (hin r').isSome = true ∧ phi (g r') = some b) := by
    intro r b hr hp
    by_cases hi : (hin r).isSome = true
    · exact .inl ⟨hi, by rw [← hsame r hi (L.lt r hr)]; exact hp⟩
    · exact .inr ⟨hnone r hi, hnew r b hr (hnone r hi) hp⟩
  have hgone : ∀ q r' b, ((s.drop p).hp q).isSome = true → gvb ≤ r' → (hin r').isSome = true → phi (g r') = some b → phi q = some b → False := by
    intro q r' b hq hge hi hp hpq
    have e := h.inj _ _ b (hsub q hq).1 (hlv r' hi) hpq hp
    exact (hsub q hq).2 (e ▸ (L.gone r' hi).2 hge)
  refine ⟨v, phiD, rfl, ?_, simV_out g (ctxX w w' phi' hout) (ctx w0 w' ro phiD ⟨(s.drop p).tm, hp'⟩) rfl (fun _ => rfl) (fun _ => hD) res v L.ownR hres⟩
  -- each region of the state behind: of the callee's, or an old one
  have hcase : ∀ q, (hp' q).isSome = true → (∃ r, (hout r).isSome = true ∧ g r = q) ∨ ((∀ r, (hout r).isSome = true → g r ≠ q) ∧ ((s.drop p).hp q).isSome = true) := by
    intro q hq
    by_cases hx : ∃ r, (hout r).isSome = true ∧ g r = q
    · exact .inl hx
    · have hn : ∀ r, (hout r).isSome = true → g r ≠ q := fun r h1 h2 => hx ⟨r, h1, h2⟩
      exact .inr ⟨hn, by rw [← L.old q hn]; exact hq⟩
  have holdb : ∀ q b, ((s.drop p).hp q).isSome = true → phi q = some b → b < w.heap.size := by
    intro q b hq hp
    replace hq := (hsub q hq).1
    obtain ⟨c, hc⟩ := Option.isSome_iff_exists.1 hq
    rcases h.liv q c hc with ⟨h1, _⟩ | ⟨b', _, _, h1, h2, _⟩ | ⟨b', _, _, h1, h2, _⟩
    · rw [h1] at hp; cases hp
    · rw [h1] at hp; cases hp; exact lt_of_get h2
    · rw [h1] at hp; cases hp; exact lt_of_get h2
  exact {
    os := hos.trans h.os, tape := htape.trans h.tape, output := hout'.trans h.output, size := Nat.le_trans h.size hsize
    kept := fun b hb hmu => by
      refine (hkept b (Nat.lt_of_lt_of_le hb h.size) fun r hr hp => ?_).trans (h.kept b hb hmu)
      obtain ⟨c, hc⟩ := Option.isSome_iff_exists.1 hr
      have hp' : phi (g r) = some b := hp
      rcases h.liv _ _ (L.has r c hc) with ⟨h1, _⟩ | ⟨b', _, _, h1, _, _, h2, _⟩ | ⟨b', _, _, h1, _, _, _, h2⟩
      · rw [h1] at hp'; cases hp'
      · rw [h1] at hp'; cases hp'
        rcases h2 with ⟨_, h2 | ⟨r', _, h2⟩⟩ | h2
        · omega
        · exact hmu _ h2
        · exact hmu _ h2.2
      · rw [h1] at hp'; cases hp'
        rcases h2 with ⟨_, h2 | ⟨r', _, h2⟩⟩ | h2
        · omega
        · exact hmu _ h2
        · exact hmu _ h2.2
    shp := fun b cur e f hb => by
      obtain ⟨c1, g1, g2⟩ := h.shp b cur e f hb
      obtain ⟨c2, g3, g4⟩ := hshp b c1 e f g1
      exact ⟨c2, g3, by omega⟩
    npb := h.npb
    gd := h.gd
    rob := fun b hb => Nat.lt_of_lt_of_le (h.rob b hb) hsize
    inj := fun q q' b hq hq' h1 h2 => by
      rcases hcase q hq with ⟨r, hr, rfl⟩ | ⟨hn, hs1⟩
      · rw [hphi r hr] at h1
        rcases hcase q' hq' with ⟨r', hr', rfl⟩ | ⟨hn', hs1'⟩
        · rw [hphi r' hr'] at h2
          rw [hinj r r' b hr hr' h1 h2]
        · have h2' : phi q' = some b := by rw [← hphiO q' hn']; exact h2
          rcases hb0 r b hr h1 with ⟨hi, hp⟩ | ⟨hi, hge | ⟨r', k1, k2, k3⟩⟩
          · exact absurd (h.inj _ _ b (hlv r hi) (hsub _ hs1').1 hp h2') (hn' r hr)
          · have := holdb q' b hs1' h2'; omega
          · exact (hgone q' r' b hs1' k1 k2 k3 h2').elim
      · have h1' : phi q = some b := by rw [← hphiO q hn]; exact h1
        rcases hcase q' hq' with ⟨r', hr', rfl⟩ | ⟨hn', hs1'⟩
        · rw [hphi r' hr'] at h2
          rcases hb0 r' b hr' h2 with ⟨hi, hp⟩ | ⟨hi, hge | ⟨r2, k1, k2, k3⟩⟩
          · exact absurd (h.inj _ _ b (hsub _ hs1).1 (hlv r' hi) h1' hp).symm (hn r' hr')
          · have := holdb q b hs1 h1'; omega
          · exact (hgone q r2 b hs1 k1 k2 k3 h1').elim
        · exact h.inj q q' b (hsub _ hs1).1 (hsub _ hs1').1 h1' (by rw [← hphiO q' hn']; exact h2)
    liv := fun q c hc => by
      rcases hcase q (by have hc1 : hp' q = some c := hc
                         rw [hc1]; rfl) with ⟨r, hr, rfl⟩ | ⟨hn, hs1⟩
      · obtain ⟨c0, hc0⟩ := Option.isSome_iff_exists.1 hr
        have hcc : renR g c0 = c := by
          have h1 : hp' (g r) = some c := hc
          rw [L.new r c0 hc0] at h1
          cases h1; rfl
        subst hcc
        have hsz : ∀ cs : List AV, cs = [] → renL g cs = [] := fun cs e => by rw [e]; simp [renL]
        have hnb : ∀ b, phi' r = some b → ¬ ro b := by
          intro b h1 hb
          rcases hb0 r b hr h1 with ⟨hi, hp⟩ | ⟨hi, hge | ⟨r', k1, k2, k3⟩⟩
          · exact (hro b hb).2 r hi hp
          · have := h.rob b hb; omega
          · exact (hro b hb).2 r' k2 k3
        have hown : ∀ b, phi' r = some b → (g r < pbase ∧ Mine w0 mu b ∨ pbase ≤ g r ∧ mu (g r) = some b) := by
          intro b h1
          rcases hb0 r b hr h1 with ⟨hi, hp⟩ | ⟨hi, hge | ⟨r', q1, q2, q3⟩⟩
          · obtain ⟨ci, hci⟩ := Option.isSome_iff_exists.1 hi
            rcases h.liv _ _ (L.has r ci hci) with ⟨k1, _⟩ | ⟨b', _, _, k1, _, _, k2, _⟩ | ⟨b', _, _, k1, _, _, _, k2⟩
            · rw [k1] at hp; cases hp
            · rw [k1] at hp; cases hp; exact k2
            · rw [k1] at hp; cases hp; exact k2
          · exact .inl ⟨(L.fresh r hr hi).2, .inl (Nat.le_trans h.size hge)⟩
          · refine .inl ⟨(L.fresh r hr hi).2, ?_⟩
            obtain ⟨ci, hci⟩ := Option.isSome_iff_exists.1 q2
            have key : (g r' < pbase ∧ Mine w0 mu b ∨ pbase ≤ g r' ∧ mu (g r') = some b) → Mine w0 mu b := by
              rintro (k | ⟨k, k'⟩)
              · exact k.2
              · rcases L.own r' q2 q1 with k2 | k2
                · omega
                · exact .inr ⟨_, k2, k'⟩
            rcases h.liv _ _ (L.has r' ci hci) with ⟨k1, _⟩ | ⟨b', _, _, k1, _, _, k2, _⟩ | ⟨b', _, _, k1, _, _, _, k2⟩
            · rw [k1] at q3; cases q3
            · rw [k1] at q3; cases q3; exact key k2
            · rw [k1] at q3; cases q3; exact key k2
        rcases hregs r c0 hc0 with ⟨h1, h2⟩ | ⟨b, cur, e, h1, h2, h3⟩ | ⟨b, o, rfl, h1, h2, h3⟩
        case inr.inr => exact .inr (.inr ⟨b, o, rfl, by rw [hphi r hr]; exact h1, h2, h3, hnb b h1, hown b h1⟩)
        · refine .inl ⟨by rw [hphi r hr]; exact h1, hsz _ h2, fun hge => ?_⟩
          by_cases hi : (hin r).isSome = true
          · obtain ⟨ci, hci⟩ := Option.isSome_iff_exists.1 hi
            rcases h.liv _ _ (L.has r ci hci) with ⟨k1, k2, k3⟩ | ⟨b', _, _, k1, _⟩ | ⟨b', _, _, k1, _⟩
            · exact k3 hge
            · have h1' : phi' r = none := h1
              rw [hsame r hi (L.lt r hr), k1] at h1'; cases h1'
            · have h1' : phi' r = none := h1
              rw [hsame r hi (L.lt r hr), k1] at h1'; cases h1'
          · have := (L.fresh r hr (hnone r hi)).2; omega
        · exact .inr (.inl ⟨b, cur, e, by rw [hphi r hr]; exact h1, h2, hnb b h1, hown b h1, simR_out (C := ctxX w w' phi' hout) (D := ctx w0 w' ro phiD ⟨(s.drop p).tm, hp'⟩) rfl (fun _ => rfl) (fun _ => hD) (L.ownO r c0 hc0) h3⟩)
      · have hc' : (s.drop p).hp q = some c := by rw [← L.old q hn]; exact hc
        have hne : ∀ b, phi q = some b → ∀ r, (hin r).isSome = true → phi (g r) ≠ some b := by
          intro b h1 r hr hp
          by_cases hge : r < gvb
          · exact hn r (L.stay r hr hge) (h.inj _ _ b (hlv r hr) (hsub q hs1).1 hp h1)
          · exact hgone q r b hs1 (Nat.le_of_not_lt hge) hr hp h1
        rcases h2.liv q c hc' with ⟨h1, h2, h3⟩ | ⟨b, cur, e, h1, h2, h3, h4, h5⟩ | ⟨b, o, h0, h1, h2, h3, h4, h5⟩
        · exact .inl ⟨by rw [hphiO q hn]; exact h1, h2, h3⟩
        · refine .inr (.inl ⟨b, cur, e, by rw [hphiO q hn]; exact h1, ?_, h3, h4, h5.mono hle⟩)
          rw [hkept b (lt_of_get h2) (hne b h1)]
          exact h2
        · refine .inr (.inr ⟨b, o, h0, by rw [hphiO q hn]; exact h1, ?_, h3, h4, h5⟩)
          rw [hkept b (lt_of_get h2) (hne b h1)]
          exact h2
    tms := fun t => SimV.mono _ _ _ _ hle (h2.tms t)
    slots := h.slots }
end
theorem evs_sim (h : Sim w0 mu N s a.tmps w phi ro) : ∀ args : List Operand, SimL (args.map fun x => s.ev (opd x)) (ctx w0 w ro phi s) (args.map a.eval)
  | [] => by simp [SimL]
  | x :: args => by simp only [List.map_cons, SimL]; exact ⟨h.ev x, evs_sim h args⟩
theorem Sim.bare (h : Sim w0 mu N s a.tmps w phi ro) : Sim w0 mu N ⟨fun _ => .any, s.hp⟩ a.tmps w phi ro :=
  { h with tms := fun t => by simp [SimV] }
theorem ok_callA {f : FuncId} {vs : Array Value} {xs : List AV} (hrun : (execOp a.eval o).run P w = .ok (.enter f vs) w)
    (hf : a.defers = []) (h : Sim w0 mu N s a.tmps w phi ro) (hd : ∀ k, o.dst = some k → k < N) (hsims : SimL xs (ctx w0 w ro phi s) vs.toList) (hlen : vs.size = xs.length)
    (hK : acallA P own f xs o.dst s K) : o.wp P a w (After w0 mu N K) Q := by
  unfold Oper.wp
  rw [hrun]
  rw [Oper.upon_enter]
  rcases hK with ⟨asx, res, hspec, hlend, hK⟩ | ⟨_, r, z, n, cs, asx, res, cs', hargs, hplain, hr, hcsp, hcsp', hresp, hspec, hK⟩ | ⟨_, asx, hin, ι, ok, res, hout, g, hp', hspec, hargs, hne, hKL⟩ | ⟨_, asx, hin, res, hout, g, p, hp', hspec, hargs, hG, hK⟩ | ⟨_, r, x, g, hxs, hr, hok, hspec, hK⟩ | ⟨res, hspec, hK⟩
  · have hent : Entry w asx vs.toList := hlend w0 mu N a.tmps w phi ro _ h.bare hsims (by simpa using hlen)
    refine (hspec w _ h.goodW hent).mono fun e w' hpost => ?_
    obtain ⟨v, rfl, hm, hv⟩ := hpost
    show After w0 mu N K (a.put o.dst v) w'
    have adopt : ∀ (z : Nat) (cs : List AV) (n r : Nat) (y : Value), r < pbase → cs.all plainV = true → SimV (.ro true z cs n) (fresh w w') y →
        ∃ phi', Sim w0 mu N ((s.kill r).mem r (true, cs)) a.tmps w' phi' ro ∧ SimV (.sl r z 0 n) (ctx w0 w' ro phi' ((s.kill r).mem r (true, cs))) y := by
      intro z cs n r y hrp hall hv
      simp only [SimV] at hv
      rcases hv with ⟨rfl, rfl, ad, c, rfl, hnil⟩ | ⟨b, o', cap, cur, e', fz, rfl, hcell, hfr, hlen, hnc, hfresh, hs⟩
      · obtain ⟨rfl, rfl⟩ := hnil trivial
        have h1 := ((h.more_same hm).kill r).born (kill_hp s r) hrp (true, []) none rfl
        refine ⟨_, h1, ?_⟩
        simp only [SimV]
        exact ⟨rfl, by simp [ctx, AS.mem], .inl (by simp [ctx])⟩
      · obtain ⟨_, rfl, rfl, hcm, hroom⟩ := hfresh trivial
        have hsim : SimR (true, cs) (ctx w0 w ro phi s) cur.toList := by
          simp only [SimR, if_true]
          exact simL_allv hall (by simpa using hs)
        obtain ⟨phi', hp, h1⟩ := h.new hm r hrp _ hfr.1 hcell hsim
        refine ⟨phi', h1, ?_⟩
        simp only [SimV]
        exact ⟨rfl, by simp [ctx, AS.mem], .inr ⟨b, 0, cap, cur, e', hp, rfl, hcell, .inl rfl, hnc, hcm, by omega⟩⟩
    rcases hK with hK | ⟨_, r, z, cs, n, hr, hall, hK⟩
    · have hS := h.more hm (fun b => ro b ∨ w.heap.size ≤ b ∧ b < w'.heap.size) (fun _ hb => .inl hb) (fun _ hb => hb)
      have hle : (fresh w w').Le (ctx w0 w' (fun b => ro b ∨ w.heap.size ≤ b ∧ b < w'.heap.size) phi s) :=
        ⟨fun b hb => ⟨.inr hb, rfl⟩, h.size, fun e => by simp [fresh] at e, fun e => by simp [fresh] at e, fun e => by simp [fresh] at e⟩
      exact After.put hf hS hd (SimV.mono _ _ _ _ hle hv) hK
    · rcases hK with ⟨rfl, hK⟩ | ⟨rest, rfl, hrest, hK⟩
      · obtain ⟨phi', h1, h2⟩ := adopt z cs n r v (Nat.lt_of_lt_of_le (hd r hr) h.npb) hall hv
        exact After.put hf h1 hd h2 hK
      · simp only [SimV] at hv
        obtain ⟨ar, rfl, hsz, hs⟩ := hv
        obtain ⟨al⟩ := ar
        cases al with
        | nil => simp [SimL] at hs
        | cons y ys =>
          simp only [SimL] at hs
          obtain ⟨phi', h1, h2⟩ := adopt z cs n r y (Nat.lt_of_lt_of_le (hd r hr) h.npb) hall (by simpa only [SimV] using hs.1)
          refine After.put hf h1 hd ?_ hK
          simp only [SimV]
          exact ⟨_, rfl, by simpa using hsz, by simpa only [SimV] using h2, simL_allv hrest hs.2⟩
  · subst hargs
    have hlenv : vs.toList.length = asx.length + 1 := by simpa using hlen
    cases hvs : vs.toList with
    | nil => rw [hvs] at hsims; simp [SimL] at hsims
    | cons v0 vs' =>
      rw [hvs] at hsims hlenv
      simp only [SimL] at hsims
      obtain ⟨h0, hs'⟩ := hsims
      have hv0 : SimV (.sl pbase z 0 n) (ctxM w (phi r)) v0 := by
        simp only [SimV] at h0 ⊢
        refine ⟨rfl, by simp [ctxM], ?_⟩
        rcases h0.2.2 with h1 | ⟨b, o', cap, cur, e', h1, h2, h3⟩
        · exact .inl (by simpa [ctxM, ctx] using h1)
        · exact .inr ⟨b, o', cap, cur, e', by simpa [ctxM, ctx] using h1, h2, h3⟩
      have hcont : ∃ size e, Cont w (phi r) cs size e := by
        rcases h.liv r _ hr with ⟨h1, h2, _⟩ | ⟨b, cur, e', h1, h2, _, _, h5⟩ | ⟨b, o, h0, _⟩
        case inr.inr => cases h0; simp [plainV] at hcsp
        · exact ⟨0, 0, by rw [h1]; exact h2⟩
        · refine ⟨cur.size, e', ?_⟩
          rw [h1]
          refine ⟨cur, h2, rfl, ?_⟩
          simp only [SimR, if_true] at h5
          exact simL_allv hcsp h5
      obtain ⟨size, el, hcont⟩ := hcont
      refine (hspec w _ v0 vs' (phi r) size el h.goodW (fun b hb => h.regGood hr hb) hvs hv0 (simL_allv hplain hs') (by simpa using hlenv) hcont).mono fun e w' hpost => ?_
      obtain ⟨v, rfl, hos, htape, hout, hsize, hkept, hcont', hv⟩ := hpost
      show After w0 mu N K (a.put o.dst v) w'
      have hS : Sim w0 mu N (s.mem r (true, cs')) a.tmps w' phi ro := by
        rcases h.liv r _ hr with ⟨h1, h2, _⟩ | ⟨b, cur, e', h1, h2, h3, h4, h5⟩ | ⟨b, o, h0, _⟩
        case inr.inr => cases h0; simp [plainV] at hcsp
        · rw [h1] at hcont' hkept
          simp only [Cont] at hcont'
          subst hcont'
          have hm : More w w' := ⟨hos, htape, hout, hsize, fun b hb => hkept b hb (by simp)⟩
          have hcs : cs = [] := h2
          subst hcs
          have : s.mem r (true, []) = s := by
            cases s
            simp only [AS.mem, AS.mk.injEq, true_and]
            funext q
            by_cases hq : q = r
            · subst hq; simp only [if_true]; exact hr.symm
            · simp [hq]
          rw [this]
          exact h.more_same hm
        · rw [h1] at hcont hcont' hkept
          obtain ⟨cur1, g1, g2, g3⟩ := hcont
          obtain ⟨cur2, k1, k2, k3⟩ := hcont'
          rw [h2] at g1
          cases g1
          refine h.write hr h1 h2 k1 (by omega) (fun k hk hlt => hkept k hlt (by simpa using hk)) hos htape hout hsize ?_
          simp only [SimR, if_true]
          exact simL_allv hcsp' k3
      refine After.put hf hS hd ?_ hK
      cases res <;> simp [plainV] at hresp
      simpa [SimV] using hv
  · obtain ⟨h1, h2⟩ := hargs w0 mu N a.tmps w phi ro _ h.bare hsims (by simpa using hlen)
    refine (lent_after h hspec hne (fun i hi => (hKL i hi).1) (vs := vs) h1 (by simpa using h2)).mono fun e w' hpost => ?_
    obtain ⟨i, hi, v, phi', rfl, hS, hv⟩ := hpost
    exact After.put hf hS hd hv (hKL i hi).2
  · obtain ⟨h1, h2⟩ := hargs w0 mu N a.tmps w phi ro _ h.bare hsims (by simpa using hlen)
    refine (given_after h hspec hG (vs := vs) h1 (by simpa using h2)).mono fun e w' hpost => ?_
    obtain ⟨v, phi', rfl, hS, hv⟩ := hpost
    exact After.put hf hS hd hv hK
  · subst hxs
    obtain ⟨vs⟩ := vs
    match vs, hsims, hlen with
    | [v0], hsims, _ =>
      simp only [SimL, and_true] at hsims
      refine (hspec v0 (cellOk_one hok hsims) w _ (fun _ => none) h.goodW (fun q b hq => by simp at hq) (fun q q' b hq => by simp at hq) (fun q c hc => by simp at hc) (by simp [SimL, SimV]) rfl).mono fun e w' hpost => ?_
      obtain ⟨v, phi', rfl, hos, htape, hout', hsize, _, hkept, _, _, hnew, hregs, hres⟩ := hpost
      have hm : More w w' := ⟨hos, htape, hout', hsize, fun b hb => hkept b hb fun q hq => by simp at hq⟩
      have hbox : boxH v0 8000000 = some (true, [.v v0]) := rfl
      rcases hregs 8000000 _ hbox with ⟨_, h2⟩ | ⟨b, cur, et, h1, h2, h3⟩ | ⟨b, o', h1, _⟩
      · simp at h2
      · have hb1 : w.heap.size ≤ b := hnew 8000000 b (by rw [hbox]; rfl) rfl h1
        have hcur : SimR (true, [x]) (ctx w0 w ro phi s) cur.toList := by
          simp only [SimR, if_true] at h3 ⊢
          cases hl : cur.toList with
          | nil => rw [hl] at h3; simp [SimL] at h3
          | cons y ys =>
            rw [hl] at h3
            simp only [SimL, SimV, and_true] at h3 ⊢
            rw [h3]
            exact cellOk_sim (fl := true) hok hsims
        obtain ⟨phi2, hp2, h4⟩ := h.new hm r (Nat.lt_of_lt_of_le (hd r hr) h.npb) _ hb1 h2 hcur
        refine After.put hf h4 hd ?_ hK
        simp only [SimV] at hres ⊢
        obtain ⟨pa, pb, k1, k2, k3, k4⟩ := hres
        refine ⟨pa, pb, k1, k2, k3, ?_⟩
        cases hl : pa.toList ++ pb.toList with
        | nil => rw [hl] at k4; simp [SimL] at k4
        | cons y ys =>
          rw [hl] at k4
          simp only [SimL, SimV, and_true] at k4 ⊢
          obtain ⟨_, _, b', k5, k6, _⟩ := k4
          have k5' : phi' 8000000 = some b' := k5
          have h1' : phi' 8000000 = some b := h1
          rw [h1'] at k5'
          cases k5'
          exact ⟨rfl, by simp [ctx, AS.mem], b, hp2, k6, cur, et, h2⟩
      · simp at h1
  · refine (hspec w _ (ctx w0 w ro phi s) h.goodW rfl hsims hlen).mono fun e w' hpost => ?_
    obtain ⟨v, rfl, hm, hv⟩ := hpost
    exact After.put hf (h.more_same hm) hd hv hK
theorem ok_call {f : FuncId} {fn : Func} {cx : Operand} {args : Array Operand} {tys : Array TypeId} (ho : o.op = .call { callee := .value cx, args, argTypes := tys }) (hcx : a.eval cx = .func (.func f) #[] #[]) (hfn : P.funcs[f]? = some fn)
    (hname : (fn.name == "runtime.NumGoroutine") = false) (hbody : fn.body.isNone = false)
    (hf : a.defers = []) (h : Sim w0 mu N s a.tmps w phi ro) (hd : ∀ k, o.dst = some k → k < N)
    (hK : acallA P own f ((args.toList.map opd).map s.ev) o.dst s K) : o.wp P a w (After w0 mu N K) Q := by
  have hrun : (execOp a.eval o).run P w = .ok (.enter f (args.map a.eval)) w := by
    have h1 : ¬ fn.name = "runtime.NumGoroutine" := by simpa using hname
    have h2 : ¬ fn.body = none := by intro e; rw [e] at hbody; cases hbody
    simp [execOp, ho, resolve, hcx, Deferred.ofValue, invoke, callFunc, hfn, h1, h2]
  refine ok_callA hrun hf h hd ?_ (by simp) hK
  rw [List.map_map, Array.toList_map]
  exact evs_sim h args.toList
theorem ok_callf {f : FuncId} {fn : Func} {cx : Operand} {args : Array Operand} {tys : Array TypeId} {l : List AV} {k : Nat} (ho : o.op = .call { callee := .value cx, args, argTypes := tys }) (hcx : SimV (.fn f l k) (ctx w0 w ro phi s) (a.eval cx)) (hfn : P.funcs[f]? = some fn)
    (hname : (fn.name == "runtime.NumGoroutine") = false) (hbody : fn.body.isNone = false)
    (hf : a.defers = []) (h : Sim w0 mu N s a.tmps w phi ro) (hd : ∀ k, o.dst = some k → k < N)
    (hK : acallA P own f (l.take k ++ (args.toList.map opd).map s.ev ++ l.drop k) o.dst s K) : o.wp P a w (After w0 mu N K) Q := by
  simp only [SimV] at hcx
  obtain ⟨p, q, hcx, hp, hq, hl⟩ := hcx
  have hrun : (execOp a.eval o).run P w = .ok (.enter f (p ++ args.map a.eval ++ q)) w := by
    have h1 : ¬ fn.name = "runtime.NumGoroutine" := by simpa using hname
    have h2 : ¬ fn.body = none := by intro e; rw [e] at hbody; cases hbody
    simp [execOp, ho, resolve, hcx, Deferred.ofValue, invoke, callFunc, hfn, h1, h2]
  have e1 : (p.toList ++ q.toList).take k = p.toList := by
    rw [List.take_append_of_le_length (by simp; omega), List.take_of_length_le (by simp; omega)]
  have e2 : (p.toList ++ q.toList).drop k = q.toList := by
    have hk : k = p.toList.length := by simp [hp]
    rw [hk, List.drop_left]
  refine ok_callA hrun hf h hd ?_ (by simp; omega) hK
  have g1 := hl.take k
  have g2 := hl.drop k
  rw [e2] at g2
  have g3 : SimL ((args.toList.map opd).map s.ev) (ctx w0 w ro phi s) (args.map a.eval).toList := by
    rw [List.map_map, Array.toList_map]
    exact evs_sim h args.toList
  have g1' : SimL (l.take k) (ctx w0 w ro phi s) p.toList := by
    refine SimL.of_get fun i x hi => ?_
    obtain ⟨y, h1, h2⟩ := g1.get hi
    have hik : i < k := by
      rw [List.getElem?_take] at hi
      by_cases h : i < k
      · exact h
      · simp [h] at hi
    rw [List.getElem?_append_left (by simp; omega)] at h1
    exact ⟨y, h1, h2⟩
  have := (g1'.append (by simp; omega) g3).append (by simp; omega) g2
  simpa using this
theorem ok_mkf {f : FuncId} {first captured : Array Operand} (ho : o.op = .makeFunc (.func f) first captured)
    (hf : a.defers = []) (h : Sim w0 mu N s a.tmps w phi ro) (hd : ∀ k, o.dst = some k → k < N)
    (hK : aexec P own (.mkf f first.size ((first ++ captured).toList.map opd)) o.dst s K) : o.wp P a w (After w0 mu N K) Q := by
  refine wp_value (v := .func (.func f) (first.map a.eval) (captured.map a.eval)) (w' := w) (by simp [execOp, ho, Instr.makeFunc]) (After.put hf h hd ?_ hK)
  simp only [SimV]
  refine ⟨_, _, rfl, by simp, by simp, ?_⟩
  have := evs_sim h (first ++ captured).toList
  rw [List.map_map]
  rw [show (Array.map a.eval first).toList ++ (Array.map a.eval captured).toList = (first ++ captured).toList.map a.eval by simp]
  exact this
end Go.Am
