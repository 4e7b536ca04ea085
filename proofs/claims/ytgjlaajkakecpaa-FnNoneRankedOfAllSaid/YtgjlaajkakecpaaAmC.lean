/- The abstract machine, part three: a small language of operations, how the model's code is read as it, and what each operation does to an abstract state. -/
import Derived.Test.YtgjlaajkakecpaaAmB
import Derived.WideKeyMaps
import Derived.Laws.Externs
namespace Go.Am

inductive Opd where
  | t (n : Nat)
  | c (v : Value)

def AS.ev (s : AS) : Opd → AV
  | .t n => s.tm n
  | .c v => .v v

/-- Operations that make one value out of others alone: a field; a struct or an array; an element of an array; a byte of a string; a part of a string; another kind of integer; equality of structs of integers; the lesser or the greater one. -/
inductive PG where
  | fld (off : Nat) (k : Option Nat)
  | bld (zero : List Value) (places : List (Nat × Nat))
  | aix (n z : Nat) (k : Option Nat)
  | six
  | scut (lo hi : Bool)
  | cvt (k : IntKind)
  | aeq (ne : Bool) (offs : List Nat)
  | mm (mx : Bool)
  | inil (ne : Bool)
  | cpl
  | cut4 (z : Nat)

inductive AOp where
  | mov (x : Opd)
  | nils (z : Nat)
  | pick (c a b : Opd)
  | not (x : Opd)
  | neg (x : Opd)
  | bin (op : BinOp) (x y : Opd)
  | beq (ne : Bool) (x y : Opd)
  | len (x : Opd)
  | slen (x : Opd)
  | capn (x : Opd)
  | isnil (ne : Bool) (x : Opd)
  | idx (z : Nat) (x i : Opd)
  | arr (z n : Nat) (x i : Opd)
  | ld (k : Option Nat) (x : Opd)
  | st (k : Nat) (x y : Opd)
  | mk (z bs : Nat) (zero : List Value) (l c : Opd)
  | cut (z : Nat) (x : Opd) (lo hi : Option Opd)
  | cut3 (z : Nat) (x hi mx : Opd)
  | app (z bs : Nat) (x y : Opd)
  | appz (z bs : Nat) (zero : List Value) (x y : Opd)
  | call (f : FuncId) (args : List Opd)
  | ext (x : Opd) (i : Nat)
  | alloc (zero : List Value)
  | box (k : Nat) (x : Opd)
  | bsl (z n : Nat) (zero : List Value) (parts : List (Nat × Opd))
  | fa (off : Nat) (x : Opd)
  | pu (g : PG) (args : List Opd)
  | cpy (z : Nat) (x y : Opd)
  | bts (x : Opd)
  | acut (z n : Nat) (x : Opd) (lo hi : Option Opd)
  | callv (f : Opd) (args : List Opd)
  | mkf (f : FuncId) (k : Nat) (args : List Opd)
  | rng (x : Opd)
  | nxs (x : Opd)
  | nchk (x : Opd)
  | mmk
  | mget (k : IntKind) (z : Value) (ok : Bool) (x i : Opd)
  | mput (k : IntKind) (x i y : Opd)
  | mgetk (kt : TypeId) (z : Value) (ok : Bool) (x i : Opd)
  | mputk (kt : TypeId) (x i y : Opd)
  | xcall (f : FuncId) (args : List Opd)
  | mrg (x : Opd)
  | mnx (x : Opd)
  | ment (x : Opd)
  | mdel (kt : TypeId) (x i : Opd)
  | mnil (ne : Bool) (x : Opd)
  | dead

structure AOper where
  d : Option Nat
  op : AOp
  g : Option (Nat × Bool)

/-- Operations of a region that draws its order: one that may be taken first; two of which each may come first. -/
inductive ATree where
  | done
  | take (o : AOper) (t : ATree)
  | two (o : AOper) (t : ATree) (p : AOper) (u : ATree)
  | own (o : AOper) (t : ATree)
  | one (o : AOper) (t : ATree)
  | alt (t u : ATree)
  | pre (o : AOper) (rs : List Nat) (t : ATree)
  | top

inductive ACode where
  | skip
  | ops (l : List AOper)
  | tree (t : ATree)
  | seq (a b : ACode)
  | cond (c : Opd) (a b : ACode)
  | block (id : Nat) (a : ACode)
  | loop (a : ACode)
  | exit (id : Nat)
  | ret
  | dead
  | scope (a : ACode)
  | label (l : Nat)
  | goto (l : Nat)

def opd : Operand → Opd
  | .tmp t => .t t
  | .const v => .c v
  | .global g => .c (.pointer (some ⟨g, 0, none⟩))
  | .func f => .c (.func (.func f) #[] #[])

def flatT (P : Program) (t : TypeId) : Bool :=
  match P.underlying t with
  | some (.struct _) | some (.array _ _) | none => false
  | _ => true

/-- How many cells a variable of a type has: none for one that is no struct and no array. -/
def shapeT (P : Program) (t : TypeId) : Option (Option Nat) :=
  match P.underlying t, P.info? t with
  | some (.struct _), some i | some (.array _ _), some i => some (some i.size)
  | some _, some _ => some none
  | _, _ => none

def copCall (P : Program) (c : Call) : Option AOp :=
  match c.callee with
  | .builtin .len =>
    match c.args.toList, c.argTypes.toList with
    | [x], [t] =>
      match P.underlying t with
      | some (.slice _) => some (.len (opd x))
      | some .string => some (.slen (opd x))
      | _ => none
    | _, _ => none
  | .builtin .append =>
    match c.args.toList, c.argTypes.toList with
    | [x, y], [t, u] =>
      match P.underlying t with
      | some (.slice e) => (P.info? e).bind fun i => i.zero.bind fun z => if z.cells.size = i.size ∧ 0 < i.size ∧ t = u then some (.app i.size i.bytes (opd x) (opd y)) else
        if z.cells.size = i.size ∧ 0 < i.size then (match P.underlying u with
          | some (.int _) => some (.appz i.size i.bytes z.cells.toList (opd x) (opd y))
          | _ => none) else none
      | _ => none
    | _, _ => none
  | .builtin .copy =>
    match c.args.toList, c.argTypes.toList with
    | [x, y], [t, u] =>
      match P.underlying t with
      | some (.slice e) => (P.info? e).bind fun i => if t = u ∧ 0 < i.size then some (.cpy i.size (opd x) (opd y)) else none
      | _ => none
    | _, _ => none
  | .builtin .max => match c.args.toList with
    | [x, y] => some (.pu (.mm true) [opd x, opd y])
    | _ => none
  | .builtin .min => match c.args.toList with
    | [x, y] => some (.pu (.mm false) [opd x, opd y])
    | _ => none
  | .builtin .cap => match c.args.toList, c.argTypes.toList with
    | [x], [t] =>
      match P.underlying t with
      | some (.slice _) => some (.capn (opd x))
      | _ => none
    | _, _ => none
  | .value (.func f) =>
    match P.funcs[f]? with
    | some fn => if fn.name == "runtime.NumGoroutine" || fn.body.isNone then (if fn.name == "runtime.NumGoroutine" then none else some (.xcall f (c.args.toList.map opd))) else some (.call f (c.args.toList.map opd))
    | none => none
  | .value x => some (.callv (opd x) (c.args.toList.map opd))
  | .builtin .delete => match c.args.toList, c.argTypes.toList with
    | [x, i], t :: _ =>
      match P.underlying t with
      | some (.map kt _) => some (.mdel kt (opd x) (opd i))
      | _ => none
    | _, _ => none
  | _ => none

/-- The offsets of a struct's fields, all integers. -/
def intFields (P : Program) : List Field → Option (List Nat)
  | [] => some []
  | f :: l => match P.underlying f.type with
    | some (.int _) => if f.name = "_" then none else (intFields P l).map (f.offset :: ·)
    | _ => none

def copOp0 (P : Program) (o : Oper) : Option AOp :=
  match o.op with
  | .move x | .assign x =>
    match x, P.underlying o.type with
    | .const (.slice none 0 0), some (.slice e) => (P.info? e).map fun i => .nils i.size
    | x, _ => some (.mov (opd x))
  | .pick c a b => some (.pick (opd c) (opd a) (opd b))
  | .unOp .not _ x => some (.not (opd x))
  | .unOp .neg _ x => some (.neg (opd x))
  | .unOp .xor _ x => some (.pu .cpl [opd x])
  | .binOp op t x y _ =>
    match P.underlying t with
    | some (.int _) => some (.bin op (opd x) (opd y))
    | some .string => some (.bin op (opd x) (opd y))
    | some (.slice _) => match y with
      | .const (.slice none 0 0) => if op = .eql then some (.isnil false (opd x)) else if op = .neq then some (.isnil true (opd x)) else none
      | _ => none
    | some (.struct fs) => if P.stoodInHeld t = false ∧ P.eqGuardType P.depth t = false then
        (intFields P fs.toList).bind fun offs => if op = .eql then some (.pu (.aeq false offs) [opd x, opd y]) else if op = .neq then some (.pu (.aeq true offs) [opd x, opd y]) else none
      else none
    | some (.map _ _) => match y with
      | .const (.map none) => if op = .eql then some (.mnil false (opd x)) else if op = .neq then some (.mnil true (opd x)) else none
      | _ => none
    | some .bool => if op = .eql then some (.beq false (opd x) (opd y)) else if op = .neq then some (.beq true (opd x) (opd y)) else none
    | some (.interface _) => match y with
      | .const .nilIface => if op = .eql then some (.pu (.inil false) [opd x]) else if op = .neq then some (.pu (.inil true) [opd x]) else none
      | _ => none
    | _ => none
  | .indexAddr t x i =>
    match P.underlying t with
    | some (.slice e) => (P.info? e).map fun inf => .idx inf.size (opd x) (opd i)
    | some (.array n e) => (P.info? e).map fun inf => .arr inf.size n (opd x) (opd i)
    | _ => none
  | .load t x => (shapeT P t).map fun k => .ld k (opd x)
  | .store t x y => if o.dst.isSome then none else (shapeT P t).bind fun k => (P.info? t).bind fun i => match k with
    | none => if i.size = 1 then some (.st 1 (opd x) (opd y)) else none
    | some k => some (.st k (opd x) (opd y))
  | .makeSlice t l c =>
    match P.underlying t with
    | some (.slice e) => (P.info? e).bind fun i => i.zero.bind fun z => if z.cells.size = i.size ∧ 0 < i.size then some (.mk i.size i.bytes z.cells.toList (opd l) (opd c)) else none
    | _ => none
  | .slice t x lo hi none =>
    match P.underlying t with
    | some (.slice e) => (P.info? e).map fun i => .cut i.size (opd x) (lo.map opd) (hi.map opd)
    | some (.array n e) => (P.info? e).map fun i => .acut i.size n (opd x) (lo.map opd) (hi.map opd)
    | some .string => some (.pu (.scut lo.isSome hi.isSome) (opd x :: (lo.toList.map opd ++ hi.toList.map opd)))
    | _ => none
  | .slice t x none (some hi) (some mx) =>
    match P.underlying t with
    | some (.slice e) => (P.info? e).map fun i => .cut3 i.size (opd x) (opd hi) (opd mx)
    | _ => none
  | .slice t x (some lo) (some hi) (some mx) =>
    match P.underlying t with
    | some (.slice e) => (P.info? e).map fun i => .pu (.cut4 i.size) [opd x, opd lo, opd hi, opd mx]
    | _ => none
  | .call c => copCall P c
  | .extract x i => some (.ext (opd x) i)
  | .alloc t => (P.info? t).bind fun i => i.zero.map fun z => .alloc z.cells.toList
  | .box t x => (shapeT P t).bind fun k => (P.info? t).bind fun i => match k with
    | none => if i.size = 1 then some (.box 1 (opd x)) else none
    | some k => some (.box k (opd x))
  | .buildSlice t n parts =>
    match P.underlying t with
    | some (.slice e) => (P.info? e).bind fun i => i.zero.bind fun z =>
      if z.cells.size = i.size ∧ 0 < i.size ∧ n * i.size ≤ 16777216 then some (.bsl i.size n z.cells.toList (parts.toList.map fun p => (p.1, opd p.2))) else none
    | _ => none
  | .fieldAddr t x f =>
    match P.underlying t with
    | some (.struct fields) => (fields[f]?).bind fun fd => (P.info? fd.type).bind fun i => if i.size = 0 then none else some (.fa fd.offset (opd x))
    | _ => none
  | .field t x f =>
    match P.underlying t with
    | some (.struct fields) => (fields[f]?).bind fun fd => (shapeT P fd.type).map fun k => .pu (.fld fd.offset k) [opd x]
    | _ => none
  | .build t parts =>
    (P.info? t).bind fun i => i.zero.bind fun z =>
    match P.underlying t with
    | some (.struct fields) => if fields.toList.all (fun f => (P.info? f.type).isSome) = true then (parts.toList.mapM fun p => (fields[p.1]?).bind fun f => (P.info? f.type).map fun inf => (f.offset, inf.size)).map fun pl => .pu (.bld z.cells.toList pl) (parts.toList.map fun p => opd p.2) else none
    | some (.array _ e) => (P.info? e).map fun inf => .pu (.bld z.cells.toList (parts.toList.map fun p => (p.1 * inf.size, inf.size))) (parts.toList.map fun p => opd p.2)
    | _ => none
  | .index t x i =>
    match P.underlying t with
    | some (.array n e) => (P.info? e).bind fun inf => (shapeT P e).map fun k => .pu (.aix n inf.size k) [opd x, opd i]
    | some .string => some (.pu .six [opd x, opd i])
    | _ => none
  | .convert u t x =>
    match P.underlying u, P.underlying t with
    | some (.int _), some (.int k) => some (.pu (.cvt k) [opd x])
    | some (.slice e), some .string => match P.underlying e with
      | some (.int .u8) => some (.bts (opd x))
      | _ => none
    | _, _ => none
  | .makeFunc (.func f) first captured => some (.mkf f first.size ((first ++ captured).toList.map opd))
  | .range t x =>
    match P.underlying t with
    | some .string => some (.rng (opd x))
    | some (.map _ _) => some (.mrg (opd x))
    | _ => none
  | .next x true => some (.nxs (opd x))
  | .next x false => some (.mnx (opd x))
  | .entry x => some (.ment (opd x))
  | .nilCheck x => some (.nchk (opd x))
  | .makeMap _ none => some .mmk
  | .lookup t x i ok =>
    match P.underlying t with
    | some (.map kt et) => match P.underlying kt with
      | some (.int k) => (P.info? et).bind fun inf => inf.zero.map fun z => .mget k z ok (opd x) (opd i)
      | _ => (P.info? et).bind fun inf => inf.zero.map fun z => .mgetk kt z ok (opd x) (opd i)
    | _ => none
  | .mapUpdate t x i y | .insert t x i y => if o.dst.isSome then none else
    match P.underlying t with
    | some (.map kt _) => match P.underlying kt with
      | some (.int k) => some (.mput k (opd x) (opd i) (opd y))
      | _ => some (.mputk kt (opd x) (opd i) (opd y))
    | _ => none
  | _ => none

/-- What isn't known is held to be dead: no proof goes through it. -/
def copOp (P : Program) (o : Oper) : Option AOp := some ((copOp0 P o).getD .dead)

def dstOk (N : Nat) : Option Nat → Bool
  | some d => decide (d < N)
  | none => true

def cop (P : Program) (N : Nat) (ops : Array Oper) (o : Oper) : Option AOper :=
  (copOp P o).bind fun op =>
    if dstOk N o.dst then
      match o.guard with
      | none => some ⟨o.dst, op, none⟩
      | some (j, w) => ((ops[j]?).bind (·.dst)).bind fun t => if t < N then some ⟨o.dst, op, some (t, w)⟩ else none
    else none

/-- What one operation on exact values gives. -/
def pbin : BinOp → Value → Value → Option Value
  | .shl, .int k a, .int _ b => if b < 0 then none else some (.int k (k.wrap (a * 2 ^ (min b.toNat k.bits))))
  | .shr, .int k a, .int _ b => if b < 0 then none else some (.int k (a.fdiv (2 ^ (min b.toNat k.bits))))
  | op, .int k a, .int k' b =>
    if k = k' then
      match op with
      | .add => some (.int k (k.wrap (a + b)))
      | .sub => some (.int k (k.wrap (a - b)))
      | .mul => some (.int k (k.wrap (a * b)))
      | .quo => if b = 0 then none else some (.int k (k.wrap (a.tdiv b)))
      | .rem => if b = 0 then none else some (.int k (a.tmod b))
      | .and => some (.int k (k.wrap (BitVec.ofInt k.bits a &&& BitVec.ofInt k.bits b).toNat))
      | .or => some (.int k (k.wrap (BitVec.ofInt k.bits a ||| BitVec.ofInt k.bits b).toNat))
      | .xor => some (.int k (k.wrap (BitVec.ofInt k.bits a ^^^ BitVec.ofInt k.bits b).toNat))
      | .andNot => some (.int k (k.wrap (BitVec.ofInt k.bits a &&& ~~~(BitVec.ofInt k.bits b)).toNat))
      | .eql => some (.bool (a == b))
      | .neq => some (.bool (a != b))
      | .lss => some (.bool (decide (a < b)))
      | .leq => some (.bool (decide (a ≤ b)))
      | .gtr => some (.bool (decide (a > b)))
      | .geq => some (.bool (decide (a ≥ b)))
      | _ => none
    else none
  | op, .string a, .string b =>
    match op with
    | .eql => some (.bool (a.toList == b.toList))
    | .neq => some (.bool !(a.toList == b.toList))
    | .add => if a.size + b.size ≤ 9223372036854775807 then some (.string (a ++ b)) else none
    | .lss => some (.bool (Op.bytesLess a.toList b.toList))
    | _ => none
  | _, _, _ => none

/-- May a value be stored into a cell of a region whose cells lead nowhere ('fl') or anywhere? -/
def cellOk (fl : Bool) : AV → Bool
  | .v x => x.oneCell'
  | .ro _ _ _ _ => true
  | .rp _ => true
  | .sl _ _ _ _ => !fl
  | .pt _ _ => !fl
  | .mp _ => !fl
  | .fn _ _ _ => !fl
  | .rmp _ _ _ => true
  | _ => false

/-- A slice's length and cells. -/
inductive Elems (hp : Nat → Option (Bool × List AV)) (z : Nat) : AV → Nat → List AV → Prop
  | ro (fr : Bool) (cs : List AV) (n : Nat) : Elems hp z (.ro fr z cs n) n cs
  | nil : Elems hp z (.v (.slice none 0 0)) 0 []
  | sl (r off n : Nat) (fl : Bool) (cs : List AV) (h : hp r = some (fl, cs)) (hl : off + n * z ≤ cs.length) : Elems hp z (.sl r z off n) n ((cs.drop off).take (n * z))

def afill (s : AS) (z : Nat) (fl : Bool) : List AV → List (Nat × Opd) → List AV → Prop
  | cs, [], out => out = cs
  | cs, (i, x) :: rest, out =>
    (z = 1 ∧ i < cs.length ∧ cellOk fl (s.ev x) = true ∧ afill s z fl (cs.set i (s.ev x)) rest out) ∨
    (∃ l, s.ev x = .agg l ∧ l.length = z ∧ i * z + z ≤ cs.length ∧ l.all (cellOk fl) = true ∧ afill s z fl (cs.take (i * z) ++ l ++ cs.drop (i * z + z)) rest out)

mutual
/-- The one value that an abstract one stands for. -/
def exV : AV → Option Value
  | .v x => some x
  | .agg l => (exL l).map fun vs => .agg vs.toArray
  | .any => none
  | .tup _ => none
  | .ro _ _ _ _ => none
  | .rp _ => none
  | .sl _ _ _ _ => none
  | .pt _ _ => none
  | .mp _ => none
  | .itr _ => none
  | .ob _ => none
  | .fn _ _ _ => none
  | .rmp _ _ _ => none
  | .fu _ _ _ => none
  | .mit _ _ _ _ _ => none
def exL : List AV → Option (List Value)
  | [] => some []
  | a :: l => (exV a).bind fun v => (exL l).map fun vs => v :: vs
end
mutual
theorem exV_sim : ∀ (a : AV) (C : Ctx) (x y : Value), exV a = some x → SimV a C y → y = x
  | .v z, _, x, y, e, h => by simp only [exV, Option.some.injEq] at e; simp only [SimV] at h; exact h.trans e
  | .agg l, C, x, y, e, h => by
    simp only [exV, Option.map_eq_some_iff] at e
    obtain ⟨vs, e1, rfl⟩ := e
    simp only [SimV] at h
    obtain ⟨a, rfl, h1, h2⟩ := h
    have := exL_sim l C vs a.toList e1 h2 (by simpa using h1)
    rw [← this]
  | .any, _, _, _, e, _ => by simp [exV] at e
  | .tup _, _, _, _, e, _ => by simp [exV] at e
  | .ro _ _ _ _, _, _, _, e, _ => by simp [exV] at e
  | .rp _, _, _, _, e, _ => by simp [exV] at e
  | .sl _ _ _ _, _, _, _, e, _ => by simp [exV] at e
  | .pt _ _, _, _, _, e, _ => by simp [exV] at e
  | .mp _, _, _, _, e, _ => by simp [exV] at e
  | .itr _, _, _, _, e, _ => by simp [exV] at e
  | .ob _, _, _, _, e, _ => by simp [exV] at e
  | .fn _ _ _, _, _, _, e, _ => by simp [exV] at e
  | .rmp _ _ _, _, _, _, e, _ => by simp [exV] at e
  | .fu _ _ _, _, _, _, e, _ => by simp [exV] at e
  | .mit _ _ _ _ _, _, _, _, e, _ => by simp [exV] at e
theorem exL_sim : ∀ (l : List AV) (C : Ctx) (vs ys : List Value), exL l = some vs → SimL l C ys → ys.length = l.length → ys = vs
  | [], _, vs, ys, e, _, hl => by
    simp only [exL, Option.some.injEq] at e
    rw [← e]
    exact List.eq_nil_of_length_eq_zero (by simpa using hl)
  | a :: l, C, vs, [], _, h, _ => by simp [SimL] at h
  | a :: l, C, vs, y :: ys, e, h, hl => by
    simp only [exL, Option.bind_eq_some_iff, Option.map_eq_some_iff] at e
    obtain ⟨v, e1, ws, e2, rfl⟩ := e
    simp only [SimL] at h
    rw [exV_sim a C v y e1 h.1, exL_sim l C ws ys e2 h.2 (by simpa using hl)]
end
mutual
theorem exV_mk : ∀ (a : AV) (C : Ctx) (x : Value), exV a = some x → SimV a C x
  | .v z, _, x, e => by simp only [exV, Option.some.injEq] at e; simp only [SimV]; exact e.symm
  | .agg l, C, x, e => by
    simp only [exV, Option.map_eq_some_iff] at e
    obtain ⟨vs, e1, rfl⟩ := e
    simp only [SimV]
    have h := exL_mk l C vs e1
    exact ⟨vs.toArray, rfl, by simpa using h.1, by simpa using h.2⟩
  | .any, _, _, e => by simp [exV] at e
  | .tup _, _, _, e => by simp [exV] at e
  | .ro _ _ _ _, _, _, e => by simp [exV] at e
  | .rp _, _, _, e => by simp [exV] at e
  | .sl _ _ _ _, _, _, e => by simp [exV] at e
  | .pt _ _, _, _, e => by simp [exV] at e
  | .mp _, _, _, e => by simp [exV] at e
  | .itr _, _, _, e => by simp [exV] at e
  | .ob _, _, _, e => by simp [exV] at e
  | .fn _ _ _, _, _, e => by simp [exV] at e
  | .rmp _ _ _, _, _, e => by simp [exV] at e
  | .fu _ _ _, _, _, e => by simp [exV] at e
  | .mit _ _ _ _ _, _, _, e => by simp [exV] at e
theorem exL_mk : ∀ (l : List AV) (C : Ctx) (vs : List Value), exL l = some vs → vs.length = l.length ∧ SimL l C vs
  | [], C, vs, e => by
    simp only [exL, Option.some.injEq] at e
    rw [← e]; simp [SimL]
  | a :: l, C, vs, e => by
    simp only [exL, Option.bind_eq_some_iff, Option.map_eq_some_iff] at e
    obtain ⟨v, e1, ws, e2, rfl⟩ := e
    have h := exL_mk l C ws e2
    simp only [SimL]
    exact ⟨by simpa using h.1, exV_mk a C v e1, h.2⟩
end
/-- A value is a map with these entries: one of the call's own, or one that nobody writes. -/
def MapAt (s : AS) (x : AV) (es : Array MapEntry) (clock : Nat) : Prop := (∃ r, x = .mp r ∧ s.hp r = some (true, [.ob (.map es clock)])) ∨ ∃ fr, x = .rmp fr es clock

/-- What a map's entry tells, or the zero where there is none. -/
def mres (ok : Bool) (v : Value) (b : Bool) : AV := if ok then .tup [.v v, .v (.bool b)] else .v v

/-- The call's arguments as the callee may take them. -/
def Entry (w : World) (as : List AV) (vs : List Value) : Prop :=
  SimL as { heap := w.heap, ro := fun b => b < w.heap.size, base := w.heap.size, phi := fun _ => none, live := fun _ => false, loc := false } vs ∧ vs.length = as.length

def fresh (w w' : World) : Ctx :=
  { heap := w'.heap, ro := fun b => w.heap.size ≤ b ∧ b < w'.heap.size, base := w.heap.size, phi := fun _ => none, live := fun _ => false, loc := false }

/-- THE CONTRACT OF A FUNCTION: called with values that read as 'as', it returns one that reads as 'res', all of new memory, and changes nothing that was there. -/
def Sp (P : Program) (f : FuncId) (as : List AV) (res : AV) : Prop :=
  ∀ w vs, GoodW w → Entry w as vs.toList → Calls P f vs w fun e w' => ∃ v, e = .returned v ∧ More w w' ∧ SimV res (fresh w w') v

def plainV : AV → Bool
  | .v _ => true
  | _ => false

/-- A slice that the callee may write comes first, then plain values: the region that it lies in is the callee's region 'pbase'. -/
def ctxM (w : World) (bo : Option Nat) : Ctx :=
  { heap := w.heap, ro := fun q => q < w.heap.size ∧ some q ≠ bo, base := w.heap.size, phi := fun r => if r = pbase then bo else none, live := fun r => r == pbase, loc := true }

def Cont (w : World) (bo : Option Nat) (cs : List AV) (size : Nat) (e : TypeId) : Prop :=
  match bo with
  | none => cs = []
  | some b => ∃ cur, w.heap[b]? = some (.cells cur e (0, 0)) ∧ cur.size = size ∧ SimL cs (fresh w w) cur.toList

/-- THE CONTRACT OF A FUNCTION THAT WRITES ITS FIRST ARGUMENT's CELLS: cs before, cs' behind. -/
def SpM (P : Program) (f : FuncId) (z n : Nat) (cs : List AV) (as : List AV) (res : AV) (cs' : List AV) : Prop :=
  ∀ w vs v0 vs' bo size e, GoodW w → (∀ b, bo = some b → b ∉ goodB) → vs.toList = v0 :: vs' → SimV (.sl pbase z 0 n) (ctxM w bo) v0 → SimL as (fresh w w) vs' → vs'.length = as.length → Cont w bo cs size e →
    Calls P f vs w fun x w' => ∃ v, x = .returned v ∧ w'.os = w.os ∧ w'.tape = w.tape ∧ w'.output = w.output ∧ w.heap.size ≤ w'.heap.size ∧
      (∀ b, b < w.heap.size → some b ≠ bo → w'.heap[b]? = w.heap[b]?) ∧ Cont w' bo cs' size e ∧ SimV res (fresh w w') v

/-- What a value is to a callee: it may read all that is there. -/
def Lends (hp : Nat → Option (Bool × List AV)) (xs as : List AV) : Prop :=
  ∀ w0 mu N tm w phi ro vs, Sim w0 mu N ⟨fun _ => .any, hp⟩ tm w phi ro → SimL xs (ctx w0 w ro phi ⟨fun _ => .any, hp⟩) vs → vs.length = xs.length → Entry w as vs

/-- A slice expression's bound: what is told, or what stands where nothing is. -/
def Bnd (s : AS) (x : Option Opd) (l d : Nat) : Prop :=
  match x with
  | none => l = d
  | some y => ∃ k, s.ev y = .v (.int k (l : Nat))

/-- A value built of parts at their places: out of the cells 'cs'. -/
def pfill : List AV → List (Nat × Nat) → List AV → List AV → Prop
  | cs, [], [], out => out = cs
  | cs, (off, size) :: pl, x :: xs, out =>
    (size = 1 ∧ off < cs.length ∧ cellOk false x = true ∧ pfill (cs.set off x) pl xs out) ∨
    (∃ l, x = .agg l ∧ l.length = size ∧ off + size ≤ cs.length ∧ pfill (cs.take off ++ l ++ cs.drop (off + size)) pl xs out)
  | _, _, _, _ => False

def anInt : AV → Option (IntKind × Int)
  | .v (.int k n) => some (k, n)
  | _ => none

/-- Are the integers at the places the same? None: not all are told. -/
def intsEq (l m : List AV) : List Nat → Option Bool
  | [] => some true
  | o :: offs => (l[o]?).bind fun x => (m[o]?).bind fun y => (anInt x).bind fun a => (anInt y).bind fun b => if a.1 = b.1 then (intsEq l m offs).map fun e => decide (a.2 = b.2) && e else none

/-- What such an operation makes of its operands. -/
def PG.res : PG → List AV → AV → Prop
  | .fld off none, args, r => ∃ l, args = [.agg l] ∧ l[off]? = some r
  | .fld off (some k), args, r => ∃ l, args = [.agg l] ∧ off + k ≤ l.length ∧ r = .agg ((l.drop off).take k)
  | .bld zero pl, args, r => ∃ out, pfill (zero.map AV.v) pl args out ∧ r = .agg out
  | .aix n z none, args, r => ∃ l k j, args = [.agg l, .v (.int k j)] ∧ 0 ≤ j ∧ j < n ∧ l[j.toNat * z]? = some r
  | .aix n z (some k), args, r => ∃ l kk j, args = [.agg l, .v (.int kk j)] ∧ 0 ≤ j ∧ j < n ∧ j.toNat * z + k ≤ l.length ∧ r = .agg ((l.drop (j.toNat * z)).take k)
  | .six, args, r => ∃ b k j, args = [.v (.string b), .v (.int k j)] ∧ 0 ≤ j ∧ ∃ h : j.toNat < b.size, r = .v (.int .u8 (b[j.toNat]'h).toNat)
  | .scut lo hi, args, r => ∃ (b : ByteArray) (l h : Nat) (al ah : List AV), args = .v (.string b) :: (al ++ ah) ∧ l ≤ h ∧ h ≤ b.size ∧ (if lo then ∃ k, al = [.v (.int k l)] else al = [] ∧ l = 0) ∧ (if hi then ∃ k, ah = [.v (.int k h)] else ah = [] ∧ h = b.size) ∧
      r = .v (.string (b.extract l h))
  | .cvt k, args, r => ∃ k' n, args = [.v (.int k' n)] ∧ r = .v (.int k (k.wrap n))
  | .aeq ne offs, args, r => ∃ l m e, args = [.agg l, .agg m] ∧ intsEq l m offs = some e ∧ r = .v (.bool (ne ^^ e))
  | .cpl, args, r => ∃ k n, args = [.v (.int k n)] ∧ r = .v (.int k (k.wrap (BitVec.ofInt k.bits (if k.signed then -1 else k.max) ^^^ BitVec.ofInt k.bits n).toNat))
  | .inil ne, args, r => ∃ y, args = [.v y] ∧ ((y = .nilIface ∧ r = .v (.bool !ne)) ∨ ((∃ t p, y = .iface t p) ∧ r = .v (.bool ne)))
  | .cut4 z, args, r => ∃ (a : Option Addr) (n c l h : Nat) (k k' k'' : IntKind), args = [.v (.slice a n c), .v (.int k (l : Nat)), .v (.int k' (h : Nat)), .v (.int k'' (h : Nat))] ∧ l ≤ h ∧ h ≤ c ∧ r = .v (.slice (if h = l then a else a.map (·.add (l * z))) (h - l) (h - l))
  | .mm mx, args, r => ∃ k a k' b, args = [.v (.int k a), .v (.int k' b)] ∧ r = .v (.int k (if mx then (if b > a then b else a) else (if b < a then b else a)))

def Callable (P : Program) (f : FuncId) : Prop := ∃ fn, P.funcs[f]? = some fn ∧ (fn.name == "runtime.NumGoroutine") = false ∧ fn.body.isNone = false

/-- The bytes of a string. -/
def byteVs (l : List UInt8) : List AV := l.map fun b => .v (.int .u8 b.toNat)

mutual
/-- Regions renamed. -/
def renV (f : Nat → Nat) : AV → AV
  | .sl r z off n => .sl (f r) z off n
  | .pt r off => .pt (f r) off
  | .agg l => .agg (renL f l)
  | .tup l => .tup (renL f l)
  | .any => .any
  | .v x => .v x
  | .ro fr z cs n => .ro fr z cs n
  | .rp cs => .rp cs
  | .mp r => .mp (f r)
  | .itr r => .itr (f r)
  | .ob o => .ob o
  | .fn g l k => .fn g (renL f l) k
  | .rmp fr es clock => .rmp fr es clock
  | .fu z cs n => .fu z cs n
  | .mit r m bm es ck => .mit (f r) (m.map f) bm es ck
def renL (f : Nat → Nat) : List AV → List AV
  | [] => []
  | a :: l => renV f a :: renL f l
end
def renR (f : Nat → Nat) (c : Bool × List AV) : Bool × List AV := (c.1, renL f c.2)
theorem renL_map (f : Nat → Nat) : ∀ l : List AV, renL f l = l.map (renV f)
  | [] => by simp [renL]
  | a :: l => by simp [renL, renL_map f l]

mutual
/-- Values that lead to regions alone (and, where 'ro' says so, to plain cells that nobody writes). -/
def ownV (ro : Bool) : AV → Bool
  | .sl _ _ _ _ => true
  | .pt _ _ => true
  | .agg l => ownL ro l
  | .tup l => ownL ro l
  | .any => true
  | .v _ => true
  | .ro fr _ cs _ => ro && !fr && cs.all plainV
  | .rp _ => false
  | .mp _ => true
  | .itr _ => true
  | .ob _ => true
  | .fn _ l _ => ownL ro l
  | .rmp fr _ _ => ro && !fr
  | .fu _ _ _ => false
  | .mit _ _ _ _ _ => false
def ownL (ro : Bool) : List AV → Bool
  | [] => true
  | a :: l => ownV ro a && ownL ro l
end

/-- Regions, and what they hold. -/
abbrev Hp := Nat → Option (Bool × List AV)
def Regs (C : Ctx) (h : Hp) : Prop := ∀ r c, h r = some c → (C.phi r = none ∧ c.2 = []) ∨ (∃ b cur e, C.phi r = some b ∧ C.heap[b]? = some (.cells cur e (0, 0)) ∧ SimR c C cur.toList) ∨ ∃ b o, c = (true, [.ob o]) ∧ C.phi r = some b ∧ C.heap[b]? = some o ∧ isCells o = false
def Inj (h : Hp) (phi : Nat → Option Nat) : Prop := ∀ r r' b, (h r).isSome = true → (h r').isSome = true → phi r = some b → phi r' = some b → r = r'
/-- What a callee sees. -/
def ctxE (w : World) (phi : Nat → Option Nat) (h : Hp) : Ctx :=
  { heap := w.heap, ro := fun q => q < w.heap.size ∧ ∀ r, (h r).isSome = true → phi r ≠ some q, base := w.heap.size, phi, live := fun r => (h r).isSome, loc := true }
/-- What it leaves. -/
def ctxX (w w' : World) (phi : Nat → Option Nat) (h : Hp) : Ctx :=
  { heap := w'.heap, ro := fun _ => False, base := w.heap.size, phi, live := fun r => (h r).isSome, loc := true }

/-- THE CONTRACT OF A FUNCTION THAT IS LENT REGIONS (their names are at least pbase) AND HANDS OUT NEW ONES: hin before, hout behind. -/
def SpH (P : Program) (f : FuncId) (as : List AV) (hin : Hp) (res : AV) (hout : Hp) : Prop :=
  ∀ w vs phi, GoodW w → (∀ r b, (hin r).isSome = true → phi r = some b → b ∉ goodB) → Inj hin phi → Regs (ctxE w phi hin) hin → SimL as (ctxE w phi hin) vs.toList → vs.size = as.length →
    Calls P f vs w fun x w' => ∃ v phi', x = .returned v ∧ w'.os = w.os ∧ w'.tape = w.tape ∧ w'.output = w.output ∧ w.heap.size ≤ w'.heap.size ∧
      (∀ r, (hin r).isSome = true → phi' r = phi r) ∧ (∀ b, b < w.heap.size → (∀ r, (hin r).isSome = true → phi r ≠ some b) → w'.heap[b]? = w.heap[b]?) ∧
      (∀ (b : Nat) (cur : Array Value) (e : TypeId) (f : Nat × Nat), w.heap[b]? = some (.cells cur e f) → ∃ cur' : Array Value, w'.heap[b]? = some (.cells cur' e f) ∧ cur'.size = cur.size) ∧
      Inj hout phi' ∧ (∀ r b, (hout r).isSome = true → hin r = none → phi' r = some b → w.heap.size ≤ b) ∧ Regs (ctxX w w' phi' hout) hout ∧ SimV res (ctxX w w' phi' hout) v

/-- THE SAME WITH AN OPEN END: what comes is told by an i, of which 'ok' tells. -/
def SpX (P : Program) (f : FuncId) (as : List AV) (hin : Hp) {ι : Type} (ok : ι → Prop) (res : ι → AV) (hout : ι → Hp) : Prop :=
  ∀ w vs phi, GoodW w → (∀ r b, (hin r).isSome = true → phi r = some b → b ∉ goodB) → Inj hin phi → Regs (ctxE w phi hin) hin → SimL as (ctxE w phi hin) vs.toList → vs.size = as.length →
    Calls P f vs w fun x w' => ∃ i, ok i ∧ ∃ v phi', x = .returned v ∧ w'.os = w.os ∧ w'.tape = w.tape ∧ w'.output = w.output ∧ w.heap.size ≤ w'.heap.size ∧
      (∀ r, (hin r).isSome = true → phi' r = phi r) ∧ (∀ b, b < w.heap.size → (∀ r, (hin r).isSome = true → phi r ≠ some b) → w'.heap[b]? = w.heap[b]?) ∧
      (∀ (b : Nat) (cur : Array Value) (e : TypeId) (f : Nat × Nat), w.heap[b]? = some (.cells cur e f) → ∃ cur' : Array Value, w'.heap[b]? = some (.cells cur' e f) ∧ cur'.size = cur.size) ∧
      Inj (hout i) phi' ∧ (∀ r b, (hout i r).isSome = true → hin r = none → phi' r = some b → w.heap.size ≤ b) ∧ Regs (ctxX w w' phi' (hout i)) (hout i) ∧ SimV (res i) (ctxX w w' phi' (hout i)) v
theorem SpH.toX {P : Program} {f : FuncId} {as : List AV} {hin hout : Hp} {res : AV} (h : SpH P f as hin res hout) : SpX P f as hin (ι := Unit) (fun _ => True) (fun _ => res) (fun _ => hout) :=
  fun w vs phi g1 g2 h1 h2 h3 h4 => (h w vs phi g1 g2 h1 h2 h3 h4).mono fun _ _ hp => ⟨(), trivial, hp⟩

/-- What the caller's values are to a callee that is lent regions: its names are told by f. -/
def LendsH (hp : Hp) (f : Nat → Nat) (hin : Hp) (xs as : List AV) : Prop :=
  ∀ w0 mu N tm w phi ro vs, Sim w0 mu N ⟨fun _ => .any, hp⟩ tm w phi ro → SimL xs (ctx w0 w ro phi ⟨fun _ => .any, hp⟩) vs → vs.length = xs.length → SimL as (ctxE w (fun r => phi (f r)) hin) vs ∧ vs.length = as.length

/-- Names, the state's and the callee's: what the rule at a call asks. -/
structure Lent (s : AS) (f : Nat → Nat) (hin hout : Hp) (hp' : Hp) (res : AV) : Prop where
  has : ∀ r c, hin r = some c → s.hp (f r) = some (renR f c)
  inj : ∀ r r', (hout r).isSome = true → (hout r').isSome = true → f r = f r' → r = r'
  stay : ∀ r, (hin r).isSome = true → (hout r).isSome = true
  fresh : ∀ r, (hout r).isSome = true → hin r = none → s.hp (f r) = none ∧ f r < pbase
  new : ∀ r c, hout r = some c → hp' (f r) = some (renR f c)
  old : ∀ q, (∀ r, (hout r).isSome = true → f r ≠ q) → hp' q = s.hp q
  ownI : ∀ r c, hin r = some c → ownL true c.2 = true ∧ refsL (fun r => (hin r).isSome) c.2 = true
  ownO : ∀ r c, hout r = some c → ownL false c.2 = true
  ownR : ownV false res = true

/-- Some of the regions that a call is lent (their names are at least gvb) are given to it for good: what it hands out may lie in their blocks. -/
def SpG (P : Program) (f : FuncId) (as : List AV) (hin : Hp) (res : AV) (hout : Hp) : Prop :=
  ∀ w vs phi, GoodW w → (∀ r b, (hin r).isSome = true → phi r = some b → b ∉ goodB) → Inj hin phi → Regs (ctxE w phi hin) hin → SimL as (ctxE w phi hin) vs.toList → vs.size = as.length →
    Calls P f vs w fun x w' => ∃ v phi', x = .returned v ∧ w'.os = w.os ∧ w'.tape = w.tape ∧ w'.output = w.output ∧ w.heap.size ≤ w'.heap.size ∧
      (∀ r, (hin r).isSome = true → r < gvb → phi' r = phi r) ∧ (∀ b, b < w.heap.size → (∀ r, (hin r).isSome = true → phi r ≠ some b) → w'.heap[b]? = w.heap[b]?) ∧
      (∀ (b : Nat) (cur : Array Value) (e : TypeId) (f : Nat × Nat), w.heap[b]? = some (.cells cur e f) → ∃ cur' : Array Value, w'.heap[b]? = some (.cells cur' e f) ∧ cur'.size = cur.size) ∧
      Inj hout phi' ∧ (∀ r b, (hout r).isSome = true → hin r = none → phi' r = some b → w.heap.size ≤ b ∨ ∃ r', gvb ≤ r' ∧ (hin r').isSome = true ∧ phi r' = some b) ∧ Regs (ctxX w w' phi' hout) hout ∧ SimV res (ctxX w w' phi' hout) v
/-- Names at such a call: what p tells is dropped. -/
structure Given (s : AS) (p : Nat → Bool) (g : Nat → Nat) (hin hout hp' : Hp) (res : AV) : Prop where
  has : ∀ r c, hin r = some c → s.hp (g r) = some (renR g c)
  gone : ∀ r, (hin r).isSome = true → (p (g r) = true ↔ gvb ≤ r)
  own : ∀ r, (hin r).isSome = true → gvb ≤ r → g r < pbase ∨ gvb ≤ g r
  injI : ∀ r r', (hin r).isSome = true → (hin r').isSome = true → g r = g r' → r = r'
  inj : ∀ r r', (hout r).isSome = true → (hout r').isSome = true → g r = g r' → r = r'
  stay : ∀ r, (hin r).isSome = true → r < gvb → (hout r).isSome = true
  lt : ∀ r, (hout r).isSome = true → r < gvb
  fresh : ∀ r, (hout r).isSome = true → hin r = none → (s.drop p).hp (g r) = none ∧ g r < pbase
  new : ∀ r c, hout r = some c → hp' (g r) = some (renR g c)
  old : ∀ q, (∀ r, (hout r).isSome = true → g r ≠ q) → hp' q = (s.drop p).hp q
  ownI : ∀ r c, hin r = some c → ownL true c.2 = true ∧ refsL (fun r => (hin r).isSome) c.2 = true
  ownO : ∀ r c, hout r = some c → ownL false c.2 = true
  ownR : ownV false res = true

/-- A variable with one value, new. -/
def boxH (v : Value) : Hp := fun q => if q = 8000000 then some (true, [.v v]) else none
/-- THE CONTRACT OF A FUNCTION WHOSE RESULT MAY LEAD TO WHAT ITS ARGUMENTS LEAD TO: it reads as 'res' wherever they read as 'as'; nothing that was there has changed. -/
def SpR (P : Program) (f : FuncId) (as : List AV) (res : AV) : Prop :=
  ∀ w vs (C : Ctx), GoodW w → C.heap = w.heap → SimL as C vs.toList → vs.size = as.length → Calls P f vs w fun e w' => ∃ v, e = .returned v ∧ More w w' ∧ SimV res { C with heap := w'.heap } v
/-- A call of a function that is told. -/
def acallA (P : Program) (own : Bool) (f : FuncId) (xs : List AV) (d : Option Nat) (s : AS) (K : AS → Prop) : Prop :=
  (∃ as res, Sp P f as res ∧ Lends s.hp xs as ∧
    (K (s.put d res) ∨ (own = true ∧ ∃ r z cs n, d = some r ∧ cs.all plainV = true ∧
      ((res = .ro true z cs n ∧ K (((s.kill r).mem r (true, cs)).put d (.sl r z 0 n))) ∨
       (∃ rest, res = .tup (.ro true z cs n :: rest) ∧ rest.all plainV = true ∧ K (((s.kill r).mem r (true, cs)).put d (.tup (.sl r z 0 n :: rest)))))))) ∨
  (own = true ∧ ∃ r z n cs as res cs', xs = .sl r z 0 n :: as ∧ as.all plainV = true ∧ s.hp r = some (true, cs) ∧ cs.all plainV = true ∧ cs'.all plainV = true ∧ plainV res = true ∧ SpM P f z n cs as res cs' ∧
    K ((s.mem r (true, cs')).put d res)) ∨
  (own = true ∧ ∃ (as : List AV) (hin : Hp) (ι : Type) (ok : ι → Prop) (res : ι → AV) (hout : ι → Hp) (g : Nat → Nat) (hp' : ι → Hp), SpX P f as hin ok res hout ∧ LendsH s.hp g hin xs as ∧ (∃ i, ok i) ∧ ∀ i, ok i → Lent s g hin (hout i) (hp' i) (res i) ∧ K (AS.put ⟨s.tm, hp' i⟩ d (renV g (res i)))) ∨
  (own = true ∧ ∃ (as : List AV) (hin : Hp) (res : AV) (hout : Hp) (g : Nat → Nat) (p : Nat → Bool) (hp' : Hp), SpG P f as hin res hout ∧ LendsH s.hp g hin xs as ∧ Given s p g hin hout hp' res ∧ K (AS.put ⟨(s.drop p).tm, hp'⟩ d (renV g res))) ∨
  (own = true ∧ ∃ (r : Nat) (x : AV) (g : FuncId), xs = [x] ∧ d = some r ∧ cellOk true x = true ∧ (∀ v : Value, v.oneCell' = true → SpH P f [.v v] (fun _ => none) (.fn g [.pt 8000000 0] 0) (boxH v)) ∧ K (((s.kill r).mem r (true, [x])).put d (.fn g [.pt r 0] 0))) ∨
  (∃ res, SpR P f xs res ∧ K (s.put d res))
abbrev acall (P : Program) (own : Bool) (f : FuncId) (args : List Opd) (d : Option Nat) (s : AS) (K : AS → Prop) : Prop := acallA P own f (args.map s.ev) d s K

def aexec (P : Program) (own : Bool) : AOp → Option Nat → AS → (AS → Prop) → Prop
  | .mov x, d, s, K => K (s.put d (s.ev x))
  | .nils z, d, s, K => K (s.put d (.v (.slice none 0 0))) ∨ ∃ r, d = some r ∧ K (((s.kill r).mem r (true, [])).put d (.sl r z 0 0))
  | .pick c a b, d, s, K => ∃ t, s.ev c = .v (.bool t) ∧ (t = true → K (s.put d (s.ev a))) ∧ (t = false → K (s.put d (s.ev b)))
  | .not x, d, s, K => ∃ t, s.ev x = .v (.bool t) ∧ K (s.put d (.v (.bool !t)))
  | .neg x, d, s, K => ∃ k n, s.ev x = .v (.int k n) ∧ K (s.put d (.v (.int k (k.wrap (0 - n)))))
  | .bin op x y, d, s, K => ∃ a b r, s.ev x = .v a ∧ s.ev y = .v b ∧ pbin op a b = some r ∧ K (s.put d (.v r))
  | .beq ne x y, d, s, K => ∃ a b, s.ev x = .v (.bool a) ∧ s.ev y = .v (.bool b) ∧ K (s.put d (.v (.bool (ne ^^ (a == b)))))
  | .len x, d, s, K =>
    (∃ r z off n, s.ev x = .sl r z off n ∧ K (s.put d (.v (.int .i64 n)))) ∨ (∃ fr z cs n, s.ev x = .ro fr z cs n ∧ K (s.put d (.v (.int .i64 n)))) ∨
    (∃ a n c, s.ev x = .v (.slice a n c) ∧ K (s.put d (.v (.int .i64 n))))
  | .isnil ne x, d, s, K => (∃ c, s.ev x = .v (.slice none 0 c) ∧ K (s.put d (.v (.bool !ne)))) ∨ ∃ n, ((∃ r z off, s.ev x = .sl r z off n) ∨ (∃ fr z cs, s.ev x = .ro fr z cs n) ∨ (n = 0 ∧ ∃ c, s.ev x = .v (.slice none 0 c))) ∧ (0 < n → K (s.put d (.v (.bool ne)))) ∧ (n = 0 → ∀ b, K (s.put d (.v (.bool b))))
  | .slen x, d, s, K => ∃ b, s.ev x = .v (.string b) ∧ K (s.put d (.v (.int .i64 b.size)))
  | .capn x, d, s, K => ∃ a n c, s.ev x = .v (.slice a n c) ∧ K (s.put d (.v (.int .i64 (c : Nat))))
  | .idx z x i, d, s, K => ∃ k j, s.ev i = .v (.int k j) ∧ 0 ≤ j ∧
    ((∃ r off n, s.ev x = .sl r z off n ∧ j < n ∧ K (s.put d (.pt r (off + j.toNat * z)))) ∨ (∃ fr cs n, s.ev x = .ro fr z cs n ∧ j < n ∧ K (s.put d (.rp (cs.drop (j.toNat * z))))))
  | .arr z n x i, d, s, K => ∃ k j, s.ev i = .v (.int k j) ∧ 0 ≤ j ∧ j < n ∧
    ((∃ r off, s.ev x = .pt r off ∧ K (s.put d (.pt r (off + j.toNat * z)))) ∨ (∃ cs, s.ev x = .rp cs ∧ K (s.put d (.rp (cs.drop (j.toNat * z))))))
  | .ld none x, d, s, K =>
    (∃ r off fl cs c, s.ev x = .pt r off ∧ s.hp r = some (fl, cs) ∧ cs[off]? = some c ∧ K (s.put d c)) ∨ (∃ cs c, s.ev x = .rp cs ∧ cs[0]? = some c ∧ K (s.put d c))
  | .ld (some k) x, d, s, K =>
    (∃ r off fl cs, s.ev x = .pt r off ∧ s.hp r = some (fl, cs) ∧ off + k ≤ cs.length ∧ K (s.put d (.agg ((cs.drop off).take k)))) ∨
    (∃ cs, s.ev x = .rp cs ∧ k ≤ cs.length ∧ K (s.put d (.agg (cs.take k))))
  | .st k x y, _, s, K => ∃ r off fl cs, s.ev x = .pt r off ∧ s.hp r = some (fl, cs) ∧
    ((k = 1 ∧ off < cs.length ∧ cellOk fl (s.ev y) = true ∧ K (s.mem r (fl, cs.set off (s.ev y)))) ∨
     (∃ l, s.ev y = .agg l ∧ l.length = k ∧ off + k ≤ cs.length ∧ l.all (cellOk fl) = true ∧ K (s.mem r (fl, cs.take off ++ l ++ cs.drop (off + k)))))
  | .mk z bs zero l c, d, s, K => ∃ r kl kc n m, d = some r ∧ s.ev l = .v (.int kl n) ∧ s.ev c = .v (.int kc m) ∧ 0 ≤ n ∧ n ≤ m ∧ (bs : Int) * m ≤ 281474976710656 ∧ m ≤ 9223372036854775807 ∧
    K (((s.kill r).mem r (true, (List.replicate n.toNat (zero.map AV.v)).flatten)).put d (.sl r z 0 n.toNat))
  | .cut z x lo hi, d, s, K => ∃ l h, Bnd s lo l 0 ∧
    ((∃ r off n, s.ev x = .sl r z off n ∧ Bnd s hi h n ∧ l ≤ h ∧ h ≤ n ∧ K (s.put d (.sl r z (off + l * z) (h - l)))) ∨
     (∃ fr cs n, s.ev x = .ro fr z cs n ∧ Bnd s hi h n ∧ l ≤ h ∧ h ≤ n ∧ K (s.put d (.ro false z ((cs.drop (l * z)).take ((h - l) * z)) (h - l)))) ∨
     (s.ev x = .v (.slice none 0 0) ∧ l = 0 ∧ h = 0 ∧ Bnd s hi h 0 ∧ K (s.put d (.v (.slice none 0 0)))))
  | .app z bs x y, d, s, K => (∃ q r n m fl cs ys, d = some q ∧ s.ev x = .sl r z 0 n ∧ r < pbase ∧ s.hp r = some (fl, cs) ∧ cs.length = n * z ∧ Elems s.hp z (s.ev y) m ys ∧ ys.all (cellOk fl) = true ∧
    n + m ≤ maxLen ∧ (n + m) * bs ≤ 140737488355328 ∧
    K ((((s.kill r).kill q).mem q (killR q (killR r (fl, cs ++ ys)))).put d (.sl q z 0 (n + m)))) ∨
    (∃ q n m cs ys, d = some q ∧ s.ev x = .fu z cs n ∧ Elems s.hp z (s.ev y) m ys ∧ 0 < m ∧ ys.all (cellOk true) = true ∧ n + m ≤ maxLen ∧ (n + m) * bs ≤ 140737488355328 ∧
    K (((s.kill q).mem q (true, cs ++ ys)).put d (.sl q z 0 (n + m))))
  | .cut3 z x hi mx, d, s, K => ∃ fr cs n k k', s.ev x = .ro fr z cs n ∧ s.ev hi = .v (.int k (n : Nat)) ∧ s.ev mx = .v (.int k' (n : Nat)) ∧ K (s.put d (.fu z cs n))
  | .appz z bs zero x y, d, s, K => ∃ r kl m, d = some r ∧ s.ev x = .v (.slice none 0 0) ∧ s.ev y = .v (.int kl (m : Nat)) ∧ 0 < m ∧ m ≤ maxLen ∧ m * bs ≤ 140737488355328 ∧
    K (((s.kill r).mem r (true, (List.replicate m (zero.map AV.v)).flatten)).put d (.sl r z 0 m))
  | .call f args, d, s, K => acall P own f args d s K
  | .ext x i, d, s, K => ∃ l c, s.ev x = .tup l ∧ l[i]? = some c ∧ K (s.put d c)
  | .alloc zero, d, s, K => ∃ r fl, d = some r ∧ K (((s.kill r).mem r (fl, zero.map AV.v)).put d (.pt r 0))
  | .box k x, d, s, K => ∃ r fl, d = some r ∧
    ((k = 1 ∧ cellOk fl (s.ev x) = true ∧ K (((s.kill r).mem r (killR r (fl, [s.ev x]))).put d (.pt r 0))) ∨
     (∃ l, s.ev x = .agg l ∧ l.all (cellOk fl) = true ∧ K (((s.kill r).mem r (killR r (fl, l))).put d (.pt r 0))))
  | .bsl z n zero parts, d, s, K => ∃ r fl out, d = some r ∧ afill s z fl ((List.replicate n (zero.map AV.v)).flatten) parts out ∧
    K (((s.kill r).mem r (killR r (fl, out))).put d (.sl r z 0 n))
  | .fa off x, d, s, K => (∃ r o, s.ev x = .pt r o ∧ K (s.put d (.pt r (o + off)))) ∨ (∃ cs, s.ev x = .rp cs ∧ K (s.put d (.rp (cs.drop off))))
  | .pu g args, d, s, K => ∃ r, g.res (args.map s.ev) r ∧ K (s.put d r)
  | .callv x args, d, s, K => (∃ f, s.ev x = .v (.func (.func f) #[] #[]) ∧ Callable P f ∧ acallA P own f (args.map s.ev) d s K) ∨
    (∃ f l k, s.ev x = .fn f l k ∧ Callable P f ∧ acallA P own f (l.take k ++ args.map s.ev ++ l.drop k) d s K)
  | .mkf f k args, d, s, K => K (s.put d (.fn f (args.map s.ev) k))
  | .cpy z x y, d, s, K => ∃ r off n fl cs m ys, s.ev x = .sl r z off n ∧ s.hp r = some (fl, cs) ∧ off + n * z ≤ cs.length ∧ Elems s.hp z (s.ev y) m ys ∧ ys.length = m * z ∧ ys.all (cellOk fl) = true ∧
    K ((s.mem r (fl, cs.take off ++ ys.take (min m n * z) ++ cs.drop (off + min m n * z))).put d (.v (.int .i64 (min m n : Nat))))
  | .bts x, d, s, K => ∃ bs, Elems s.hp 1 (s.ev x) bs.length (byteVs bs) ∧ K (s.put d (.v (.string ⟨bs.toArray⟩)))
  | .acut z n x lo hi, d, s, K => ∃ r off l h fl cs, s.ev x = .pt r off ∧ s.hp r = some (fl, cs) ∧ Bnd s lo l 0 ∧ Bnd s hi h n ∧ l ≤ h ∧ h ≤ n ∧ n ≤ 9007199254740992 ∧ off + n * z ≤ cs.length ∧
    K (s.put d (.sl r z (off + l * z) (h - l)))
  | .rng x, d, s, K => ∃ r b, d = some r ∧ s.ev x = .v (.string b) ∧ K (((s.kill r).mem r (true, [.ob (.stringIter b 0)])).put d (.itr r))
  | .nxs x, d, s, K => ∃ r b p, s.ev x = .itr r ∧ s.hp r = some (true, [.ob (.stringIter b p)]) ∧
    (b.size ≤ p → K (s.put d (.tup [.v (.bool false)]))) ∧
    (p < b.size → K ((s.mem r (true, [.ob (.stringIter b (p + (Utf8.decode b p).2))])).put d (.tup [.v (.bool true), .v (.int .i64 (p : Nat)), .v (.int .i32 ((Utf8.decode b p).1 : Nat))])))
  | .nchk x, d, s, K => (∃ r o, s.ev x = .pt r o ∧ K (s.put d (.pt r o))) ∨ (∃ cs, s.ev x = .rp cs ∧ K (s.put d (.rp cs)))
  | .mmk, d, s, K => ∃ r, d = some r ∧ K (((s.kill r).mem r (true, [.ob (.map #[] 0)])).put d (.mp r))
  | .mget k z ok x i, d, s, K => ∃ r es clock j, s.ev x = .mp r ∧ s.hp r = some (true, [.ob (.map es clock)]) ∧ s.ev i = .v (.int k j) ∧ (∀ e ∈ es.toList, ∃ q, e.key = .int k q) ∧
    (∀ e ∈ es.toList, e.key = .int k j → K (s.put d (mres ok e.val true))) ∧ ((∀ e ∈ es.toList, e.key ≠ .int k j) → K (s.put d (mres ok z false)))
  | .mput k x i y, _, s, K => ∃ r es clock j v, s.ev x = .mp r ∧ s.hp r = some (true, [.ob (.map es clock)]) ∧ s.ev i = .v (.int k j) ∧ s.ev y = .v v ∧ (∀ e ∈ es.toList, ∃ q, e.key = .int k q) ∧
    (∀ (n : Nat) (e : MapEntry), es.toList[n]? = some e → e.key = .int k j → K (s.mem r (true, [.ob (.map (es.modify n fun e => { e with key := .int k j, val := v }) clock)]))) ∧
    ((∀ e ∈ es.toList, e.key ≠ .int k j) → K (s.mem r (true, [.ob (.map (es.push { key := .int k j, val := v, born := clock }) (clock + 1))])))
  | .mgetk kt z ok x i, d, s, K => WideMaps.KeyLaw P kt ∧ ∃ es clock kv, MapAt s (s.ev x) es clock ∧ exV (s.ev i) = some kv ∧ (∃ l, keyOf P kt kv = some l) ∧ (∀ e ∈ es.toList, ∃ l, keyOf P kt e.key = some l) ∧
    ∃ x, (∀ e ∈ es.toList, e.key = kv → mres ok e.val true = x) ∧ ((∀ e ∈ es.toList, e.key ≠ kv) → mres ok z false = x) ∧ K (s.put d x)
  | .mputk kt x i y, _, s, K => WideMaps.KeyLaw P kt ∧ ∃ r es clock kv v, s.ev x = .mp r ∧ s.hp r = some (true, [.ob (.map es clock)]) ∧ exV (s.ev i) = some kv ∧ s.ev y = .v v ∧ (∃ l, keyOf P kt kv = some l) ∧ (∀ e ∈ es.toList, ∃ l, keyOf P kt e.key = some l) ∧
    (∀ (n : Nat) (e : MapEntry), es.toList[n]? = some e → e.key = kv → K (s.mem r (true, [.ob (.map (es.modify n fun e => { e with key := kv, val := v }) clock)]))) ∧
    ((∀ e ∈ es.toList, e.key ≠ kv) → K (s.mem r (true, [.ob (.map (es.push { key := kv, val := v, born := clock }) (clock + 1))])))
  | .mrg x, d, s, K => ∃ r, d = some r ∧
    ((∃ q es clock, s.ev x = .mp q ∧ q ≠ r ∧ s.hp q = some (true, [.ob (.map es clock)]) ∧ ∀ bm, K (((s.kill r).mem r (true, [.ob (.mapIter (some bm) clock #[] clock)])).put d (.mit r (some q) bm #[] 0))) ∨
     (∃ fr es clock, s.ev x = .rmp fr es clock ∧ ∀ bm, K (((s.kill r).mem r (true, [.ob (.mapIter (some bm) clock #[] clock)])).put d (.mit r none bm es clock))))
  | .mnx x, d, s, K => ∃ (r : Nat) (m : Option Nat) (bm : Nat) (es0 : Array MapEntry) (ck0 since : Nat) (seen : Array Nat) (c0 : Nat) (es : Array MapEntry) (clock : Nat), s.ev x = .mit r m bm es0 ck0 ∧ s.hp r = some (true, [.ob (.mapIter (some bm) since seen c0)]) ∧
    ((∃ q, m = some q ∧ q ≠ r ∧ s.hp q = some (true, [.ob (.map es clock)])) ∨ (m = none ∧ es = es0 ∧ clock = ck0)) ∧ (∀ e ∈ es.toList, e.born < since) ∧ since ≤ c0 ∧
    ((∀ e ∈ es.toList, seen.contains e.born = true) → K (s.put d (.tup [.v (.bool false)]))) ∧
    (∀ e ∈ es.toList, seen.contains e.born = false → K ((s.mem r (true, [.ob (.mapIter (some bm) since (seen.push e.born) clock)])).put d (.tup [.v (.bool true), .any, .any])))
  | .ment x, d, s, K => ∃ (r : Nat) (m : Option Nat) (bm : Nat) (es0 : Array MapEntry) (ck0 since : Nat) (seen : Array Nat) (es : Array MapEntry) (clock : Nat) (e : MapEntry) (ka va : AV), s.ev x = .mit r m bm es0 ck0 ∧ s.hp r = some (true, [.ob (.mapIter (some bm) since (seen.push e.born) clock)]) ∧
    ((∃ q, m = some q ∧ q ≠ r ∧ s.hp q = some (true, [.ob (.map es clock)])) ∨ (m = none ∧ es = es0 ∧ clock = ck0)) ∧ e ∈ es.toList ∧ (es.toList.map (·.born)).Nodup ∧
    exV ka = some e.key ∧ exV va = some e.val ∧ K (s.put d (.tup [ka, va]))
  | .mdel kt x i, d, s, K => WideMaps.KeyLaw P kt ∧ ∃ r es clock kv, s.ev x = .mp r ∧ s.hp r = some (true, [.ob (.map es clock)]) ∧ exV (s.ev i) = some kv ∧ (∃ l, keyOf P kt kv = some l) ∧ (∀ e ∈ es.toList, ∃ l, keyOf P kt e.key = some l) ∧
    (∀ (n : Nat) (e : MapEntry), es.toList[n]? = some e → e.key = kv → K ((s.mem r (true, [.ob (.map (es.eraseIdxIfInBounds n) clock)])).put d (.tup []))) ∧
    ((∀ e ∈ es.toList, e.key ≠ kv) → K ((s.mem r (true, [.ob (.map es clock)])).put d (.tup [])))
  | .mnil ne x, d, s, K => ((∃ r, s.ev x = .mp r) ∨ ∃ fr es clock, s.ev x = .rmp fr es clock) ∧ K (s.put d (.v (.bool ne)))
  | .xcall f args, d, s, K => ∃ (fn : Func) (e : Array Value → Sem Value) (vs : List Value) (v : Value), P.funcs[f]? = some fn ∧ (fn.name == "runtime.NumGoroutine") = false ∧ fn.body.isNone = true ∧ Extern.findNext fn = none ∧ Extern.find fn = some e ∧ args.map s.ev = vs.map AV.v ∧
    (∀ w, (e vs.toArray).run P w = .ok v w) ∧ K (s.put d (.v v))
  | .dead, _, _, _ => False

/-- One operation, with its guard. -/
def aop1 (P : Program) (own : Bool) (o : AOper) (s : AS) (K : AS → Prop) : Prop :=
  match o.g with
  | none => aexec P own o.op o.d s K
  | some (t, w) =>
    (∃ b, s.tm t = .v (.bool b) ∧ (b = w → aexec P own o.op o.d s K) ∧ (b = !w → K (s.put o.d (.v undef)))) ∨
    (s.tm t = .v undef ∧ K (s.put o.d (.v undef)))

def Simw (w0 : World) (mu : Nat → Option Nat) (N : Nat) (s : AS) (a : Act) (w : World) : Prop := a.defers = [] ∧ ∃ phi ro, Sim w0 mu N s a.tmps w phi ro

/-- The state s' says no more than s. -/
def Weak (s s' : AS) : Prop := ∀ w0 mu N a w, Simw w0 mu N s a w → Simw w0 mu N s' a w

def aops (P : Program) (own : Bool) : List AOper → AS → (AS → Prop) → Prop
  | [], s, Q => Q s
  | o :: l, s, Q => ∃ s1, Weak s s1 ∧ aop1 P own o s1 fun s' => aops P own l s' Q
end Go.Am
