/- The abstract machine, part nine and a half: values made of values; copies; texts out of bytes; arrays seen as slices. -/
import Derived.Test.YtgjlaajkakecpaaAmI
import Derived.MapKept
import Derived.Maps.RangeRun
import Derived.Laws.Cover3
namespace Go.Am
variable {P : Program} {w0 w : World} {mu : Nat → Option Nat} {N : Nat} {s : AS} {o : Oper} {a : Act} {phi : Nat → Option Nat} {ro : Nat → Prop} {K : AS → Prop} {Q : Exit → Act → World → Prop} {own : Bool}

theorem ok_pu {g : PG} {args : List Opd} (hrun : ∀ r, g.res (args.map s.ev) r → ∃ v, (execOp a.eval o).run P w = .ok (.value v) w ∧ SimV r (ctx w0 w ro phi s) v)
    (hf : a.defers = []) (h : Sim w0 mu N s a.tmps w phi ro) (hd : ∀ k, o.dst = some k → k < N) (hK : aexec P own (.pu g args) o.dst s K) : o.wp P a w (After w0 mu N K) Q := by
  obtain ⟨r, hr, hK⟩ := hK
  obtain ⟨v, h1, h2⟩ := hrun r hr
  exact wp_value h1 (After.put hf h hd h2 hK)

theorem sim_agg {l : List AV} {C : Ctx} {v : Value} (h : SimV (.agg l) C v) : ∃ ar : Array Value, v = .agg ar ∧ ar.size = l.length ∧ SimL l C ar.toList := by simpa only [SimV] using h
theorem sim_v {x : Value} {C : Ctx} {v : Value} (h : SimV (.v x) C v) : v = x := by simpa only [SimV] using h

theorem sim_mk {x : Value} {C : Ctx} : SimV (.v x) C x := by simp only [SimV]

theorem run_part_one {t : TypeId} (hk : shapeT P t = some none) {cs : Array Value} {off : Nat} {v : Value} (hv : cs[off]? = some v) : (part t cs off).run P w = .ok v w := by
  obtain ⟨d, ht, hd1, hd2⟩ := shapeT_none hk
  have hag : (isAgg t).run P w = .ok false w := by
    unfold isAgg
    rw [Sem.run_bind, run_underlying ht]
    cases d <;> simp at hd1 hd2 ⊢
  simp [part, hag, hv]

theorem run_part_some {t : TypeId} {k : Nat} (hk : shapeT P t = some (some k)) (cs : Array Value) (off : Nat) : (part t cs off).run P w = .ok (.agg (cs.extract off (off + k))) w := by
  obtain ⟨d, i, ht, hi, rfl, hdd⟩ := shapeT_some hk
  have hag : (isAgg t).run P w = .ok true w := by
    unfold isAgg
    rw [Sem.run_bind, run_underlying ht]
    rcases hdd with ⟨fs, rfl⟩ | ⟨n, el, rfl⟩ <;> simp
  simp [part, hag, sizeOf, typeInfo, hi]

theorem sim_extract {l : List AV} {C : Ctx} {ar : Array Value} (hsz : ar.size = l.length) (hs : SimL l C ar.toList) {off k : Nat} (hle : off + k ≤ l.length) :
    SimV (.agg ((l.drop off).take k)) C (.agg (ar.extract off (off + k))) := by
  simp only [SimV]
  refine ⟨_, rfl, by simp; omega, ?_⟩
  have : (ar.extract off (off + k)).toList = (ar.toList.drop off).take k := by simp [Array.toList_extract, List.extract_eq_take_drop]
  rw [this]
  exact (hs.drop off).take k |>.shorter _ (by simp; omega)

theorem list1 {α β : Type} {f : α → β} {x : α} {y : β} (h : [x].map f = [y]) : f x = y := by simpa using h
theorem list2 {α β : Type} {f : α → β} {x x' : α} {y y' : β} (h : [x, x'].map f = [y, y']) : f x = y ∧ f x' = y' := by simpa using h

theorem ok_fld {t : TypeId} {x : Operand} {f : Nat} {fields : Array Field} {fd : Field} {k : Option Nat} (ho : o.op = .field t x f) (ht : P.underlying t = some (.struct fields)) (hfd : fields[f]? = some fd) (hk : shapeT P fd.type = some k)
    (hf : a.defers = []) (h : Sim w0 mu N s a.tmps w phi ro) (hd : ∀ k, o.dst = some k → k < N) (hK : aexec P own (.pu (.fld fd.offset k) [opd x]) o.dst s K) : o.wp P a w (After w0 mu N K) Q := by
  refine ok_pu (fun r hr => ?_) hf h hd hK
  have hx := h.ev x
  cases k with
  | none =>
    obtain ⟨l, he, hr⟩ := hr
    rw [list1 he] at hx
    obtain ⟨ar, hv, hsz, hs⟩ := sim_agg hx
    obtain ⟨y, hy, hsy⟩ := hs.get hr
    refine ⟨y, ?_, hsy⟩
    have hp := run_part_one (P := P) (w := w) hk (cs := ar) (off := fd.offset) (v := y) (by simpa using hy)
    simp [execOp, ho, Instr.field, run_underlying ht, hfd, hv, asAgg, hp]
  | some k =>
    obtain ⟨l, he, hle, rfl⟩ := hr
    rw [list1 he] at hx
    obtain ⟨ar, hv, hsz, hs⟩ := sim_agg hx
    refine ⟨.agg (ar.extract fd.offset (fd.offset + k)), ?_, sim_extract hsz hs hle⟩
    have hp := run_part_some (P := P) (w := w) hk ar fd.offset
    simp [execOp, ho, Instr.field, run_underlying ht, hfd, hv, asAgg, hp]

theorem ok_aix {t e : TypeId} {n : Nat} {x i : Operand} {inf : TypeInfo} {k : Option Nat} (ho : o.op = .index t x i) (ht : P.underlying t = some (.array n e)) (hi : P.info? e = some inf) (hk : shapeT P e = some k)
    (hf : a.defers = []) (h : Sim w0 mu N s a.tmps w phi ro) (hd : ∀ k, o.dst = some k → k < N) (hK : aexec P own (.pu (.aix n inf.size k) [opd x, opd i]) o.dst s K) : o.wp P a w (After w0 mu N K) Q := by
  refine ok_pu (fun r hr => ?_) hf h hd hK
  have hx := h.ev x
  have hj := h.ev i
  cases k with
  | none =>
    obtain ⟨l, kk, j, he, h0, h1, hr⟩ := hr
    rw [(list2 he).1] at hx
    rw [(list2 he).2] at hj
    obtain ⟨ar, hv, hsz, hs⟩ := sim_agg hx
    have hj' := sim_v hj
    obtain ⟨y, hy, hsy⟩ := hs.get hr
    refine ⟨y, ?_, hsy⟩
    have hp := run_part_one (P := P) (w := w) hk (cs := ar) (off := j.toNat * inf.size) (v := y) (by simpa using hy)
    simp [execOp, ho, Instr.index, run_underlying ht, hv, hj', asIntOf, h0, h1, sizeOf, typeInfo, hi, hp]
  | some k =>
    obtain ⟨l, kk, j, he, h0, h1, hle, rfl⟩ := hr
    rw [(list2 he).1] at hx
    rw [(list2 he).2] at hj
    obtain ⟨ar, hv, hsz, hs⟩ := sim_agg hx
    have hj' := sim_v hj
    refine ⟨_, ?_, sim_extract hsz hs hle⟩
    have hp := run_part_some (P := P) (w := w) hk ar (j.toNat * inf.size)
    simp [execOp, ho, Instr.index, run_underlying ht, hv, hj', asIntOf, h0, h1, sizeOf, typeInfo, hi, hp]

theorem ok_six {t : TypeId} {x i : Operand} (ho : o.op = .index t x i) (ht : P.underlying t = some .string)
    (hf : a.defers = []) (h : Sim w0 mu N s a.tmps w phi ro) (hd : ∀ k, o.dst = some k → k < N) (hK : aexec P own (.pu .six [opd x, opd i]) o.dst s K) : o.wp P a w (After w0 mu N K) Q := by
  refine ok_pu (fun r hr => ?_) hf h hd hK
  have hx := h.ev x
  have hj := h.ev i
  obtain ⟨b, k, j, he, h0, h1, rfl⟩ := hr
  rw [(list2 he).1] at hx
  rw [(list2 he).2] at hj
  have hx' := sim_v hx
  have hj' := sim_v hj
  refine ⟨_, ?_, sim_mk⟩
  simp [execOp, ho, Instr.index, run_underlying ht, hx', hj', asIntOf, h0, h1]

theorem ok_scut {t : TypeId} {x : Operand} {lo hi : Option Operand} (ho : o.op = .slice t x lo hi none) (ht : P.underlying t = some .string)
    (hf : a.defers = []) (h : Sim w0 mu N s a.tmps w phi ro) (hd : ∀ k, o.dst = some k → k < N) (hK : aexec P own (.pu (.scut lo.isSome hi.isSome) (opd x :: (lo.toList.map opd ++ hi.toList.map opd))) o.dst s K) : o.wp P a w (After w0 mu N K) Q := by
  refine ok_pu (fun r hr => ?_) hf h hd hK
  have hx := h.ev x
  obtain ⟨b, l, hh, al, ah, he, h1, h2, hl, hr', rfl⟩ := hr
  refine ⟨_, ?_, sim_mk⟩
  have bl : (Instr.sliceBounds false b.size b.size (lo.map a.eval) (hi.map a.eval) none).run P w = .ok (l, hh, b.size) w ∧ a.eval x = .string b := by
    cases lo with
    | none =>
      obtain ⟨rfl, rfl⟩ : al = [] ∧ l = 0 := by simpa using hl
      cases hi with
      | none =>
        obtain ⟨rfl, rfl⟩ : ah = [] ∧ hh = b.size := by simpa using hr'
        have e1 : s.ev (opd x) = .v (.string b) := by simpa using he
        rw [e1] at hx
        exact ⟨by simp [Instr.sliceBounds], sim_v hx⟩
      | some y =>
        obtain ⟨k, rfl⟩ : ∃ k, ah = [.v (.int k hh)] := by simpa using hr'
        obtain ⟨e1, e2⟩ : s.ev (opd x) = .v (.string b) ∧ s.ev (opd y) = .v (.int k hh) := by simpa using he
        rw [e1] at hx
        have hy := h.ev y
        rw [e2] at hy
        have hy' := sim_v hy
        exact ⟨by simp [Instr.sliceBounds, hy', run_sliceBound (P := P) w k hh b.size _ (by omega) (by omega)], sim_v hx⟩
    | some z =>
      obtain ⟨kl, rfl⟩ : ∃ k, al = [.v (.int k l)] := by simpa using hl
      cases hi with
      | none =>
        obtain ⟨rfl, rfl⟩ : ah = [] ∧ hh = b.size := by simpa using hr'
        obtain ⟨e1, e2⟩ : s.ev (opd x) = .v (.string b) ∧ s.ev (opd z) = .v (.int kl l) := by simpa using he
        rw [e1] at hx
        have hz := h.ev z
        rw [e2] at hz
        have hz' := sim_v hz
        exact ⟨by simp [Instr.sliceBounds, hz', run_sliceBound (P := P) w kl l b.size _ (by omega) (by omega)], sim_v hx⟩
      | some y =>
        obtain ⟨k, rfl⟩ : ∃ k, ah = [.v (.int k hh)] := by simpa using hr'
        obtain ⟨e1, e2, e3⟩ : s.ev (opd x) = .v (.string b) ∧ s.ev (opd z) = .v (.int kl l) ∧ s.ev (opd y) = .v (.int k hh) := by simpa using he
        rw [e1] at hx
        have hz := h.ev z
        rw [e2] at hz
        have hz' := sim_v hz
        have hy := h.ev y
        rw [e3] at hy
        have hy' := sim_v hy
        exact ⟨by simp [Instr.sliceBounds, hy', hz', run_sliceBound (P := P) w k hh b.size _ (by omega) (by omega), run_sliceBound (P := P) w kl l hh _ (by omega) (by omega)], sim_v hx⟩
  simp [execOp, ho, Instr.sliceAt, Instr.slice, run_underlying ht, bl.1, bl.2]

theorem ok_cvt {u t : TypeId} {k k0 : IntKind} {x : Operand} (ho : o.op = .convert u t x) (hu : P.underlying u = some (.int k0)) (ht : P.underlying t = some (.int k))
    (hf : a.defers = []) (h : Sim w0 mu N s a.tmps w phi ro) (hd : ∀ k, o.dst = some k → k < N) (hK : aexec P own (.pu (.cvt k) [opd x]) o.dst s K) : o.wp P a w (After w0 mu N K) Q := by
  refine ok_pu (fun r hr => ?_) hf h hd hK
  have hx := h.ev x
  obtain ⟨k', n, he, rfl⟩ := hr
  rw [list1 he] at hx
  have hx' := sim_v hx
  refine ⟨_, ?_, sim_mk⟩
  simp [execOp, ho, convert, run_underlying hu, run_underlying ht, hx', Conv.intToInt]

theorem ok_cvs {u t : TypeId} {x : Operand} (ho : o.op = .convert u t x) (hu : P.underlying u = some .string) (ht : P.underlying t = some .string)
    (hf : a.defers = []) (h : Sim w0 mu N s a.tmps w phi ro) (hd : ∀ k, o.dst = some k → k < N) (hK : aexec P own (.mov (opd x)) o.dst s K) (hs : ∃ b, s.ev (opd x) = .v (.string b)) : o.wp P a w (After w0 mu N K) Q := by
  obtain ⟨b, hb⟩ := hs
  have hx := h.ev x
  refine wp_value (v := a.eval x) (w' := w) ?_ (After.put hf h hd hx hK)
  rw [hb] at hx
  have hx' := sim_v hx
  simp [execOp, ho, convert, run_underlying hu, run_underlying ht, hx']

theorem ok_mm {mx : Bool} {x y : Operand} {tys : Array TypeId} (ho : o.op = .call { callee := .builtin (if mx then .max else .min), args := #[x, y], argTypes := tys })
    (hf : a.defers = []) (h : Sim w0 mu N s a.tmps w phi ro) (hd : ∀ k, o.dst = some k → k < N) (hK : aexec P own (.pu (.mm mx) [opd x, opd y]) o.dst s K) : o.wp P a w (After w0 mu N K) Q := by
  refine ok_pu (fun r hr => ?_) hf h hd hK
  have hx := h.ev x
  have hy := h.ev y
  obtain ⟨k, p, k', q, he, rfl⟩ := hr
  rw [(list2 he).1] at hx
  rw [(list2 he).2] at hy
  have hx' := sim_v hx
  have hy' := sim_v hy
  refine ⟨_, ?_, sim_mk⟩
  cases mx
  · simp [execOp, ho, resolve, hx', hy', invoke, builtin, Builtin.min_, Builtin.min2]
  · simp [execOp, ho, resolve, hx', hy', invoke, builtin, Builtin.max_, Builtin.max2]

def isNilV : Value → Bool
  | .nilIface => true
  | _ => false
theorem run_equal_inil {t : TypeId} {ms : Array (String × TypeId)} (ht : P.underlying t = some (.interface ms)) (y : Value) (hy : y = .nilIface ∨ ∃ t p, y = .iface t p) (w : World) : (Op.equal t y .nilIface).run P w = .ok (isNilV y) w := by
  show (Op.equalIn (9999 + 1) t y .nilIface).run P w = _
  rw [Op.equalIn]
  rcases hy with rfl | ⟨t', p, rfl⟩ <;> simp [run_underlying ht, isNilV]
/-- Is an interface nil? -/
theorem run_cut4 {t e : TypeId} {i : TypeInfo} (ht : P.underlying t = some (.slice e)) (hi : P.info? e = some i) (ba : Option Addr) (n cap l m : Nat) (k k' k'' : IntKind) (h1 : l ≤ m) (h2 : m ≤ cap) :
    (Instr.sliceAt t (.slice ba n cap) (some (.int k (l : Nat))) (some (.int k' (m : Nat))) (some (.int k'' (m : Nat)))).run P w = .ok (.slice (if m = l then ba else ba.map (·.add (l * i.size))) (m - l) (m - l)) w := by
  have hsb : ∀ (k : IntKind) (x y : Nat) (code : BoundsCode), x ≤ y → (Instr.sliceBound (.int k x) y code).run P w = .ok x w := by
    intro k x y code hxy
    rw [run_sliceBound (P := P) w k x y code (by omega) (by omega)]
    simp
  have hb : (Instr.sliceBounds true n cap (some (.int k (l : Nat))) (some (.int k' (m : Nat))) (some (.int k'' (m : Nat)))).run P w = .ok (l, m, m) w := by
    unfold Instr.sliceBounds
    simp [hsb k'' m cap _ h2, hsb k' m m _ (Nat.le_refl _), hsb k l m _ h1]
  simp [Instr.sliceAt, run_underlying ht, Instr.slice, hb, sizeOf, typeInfo, hi]
/-- A slice expression with three indexes, of an exact slice. -/
theorem ok_cut4 {t e : TypeId} {x lo hi' mx : Operand} {i : TypeInfo} (ho : o.op = .slice t x (some lo) (some hi') (some mx)) (ht : P.underlying t = some (.slice e)) (hi : P.info? e = some i)
    (hf : a.defers = []) (h : Sim w0 mu N s a.tmps w phi ro) (hd : ∀ k, o.dst = some k → k < N)
    (hK : aexec P own (.pu (.cut4 i.size) [opd x, opd lo, opd hi', opd mx]) o.dst s K) : o.wp P a w (After w0 mu N K) Q := by
  refine ok_pu (fun r hr => ?_) hf h hd hK
  obtain ⟨ba, n, c, l, m, k, k', k'', he, h1, h2, rfl⟩ := hr
  simp only [List.map_cons, List.map_nil, List.cons.injEq, and_true] at he
  obtain ⟨g1, g2, g3, g4⟩ := he
  have q1 := h.ev x
  have q2 := h.ev lo
  have q3 := h.ev hi'
  have q4 := h.ev mx
  rw [g1] at q1
  rw [g2] at q2
  rw [g3] at q3
  rw [g4] at q4
  simp only [SimV] at q1 q2 q3 q4
  exact ⟨_, by simp [execOp, ho, q1, q2, q3, q4, run_cut4 ht hi ba n c l m k k' k'' h1 h2], sim_mk⟩
theorem ok_cpl {t : TypeId} {x : Operand} (ho : o.op = .unOp .xor t x)
    (hf : a.defers = []) (h : Sim w0 mu N s a.tmps w phi ro) (hd : ∀ k, o.dst = some k → k < N) (hK : aexec P own (.pu .cpl [opd x]) o.dst s K) : o.wp P a w (After w0 mu N K) Q := by
  refine ok_pu (fun r hr => ?_) hf h hd hK
  have hx := h.ev x
  obtain ⟨k, n, he, rfl⟩ := hr
  rw [list1 he] at hx
  have hx' := sim_v hx
  refine ⟨_, ?_, by simp only [SimV]; rfl⟩
  simp [execOp, ho, hx', Op.unary, Op.intBits]
theorem ok_inil {op : BinOp} {ne : Bool} {t u : TypeId} {ms : Array (String × TypeId)} {x : Operand} (ho : o.op = .binOp op t x (.const .nilIface) u) (hop : op = if ne then .neq else .eql) (ht : P.underlying t = some (.interface ms))
    (hf : a.defers = []) (h : Sim w0 mu N s a.tmps w phi ro) (hd : ∀ k, o.dst = some k → k < N) (hK : aexec P own (.pu (.inil ne) [opd x]) o.dst s K) : o.wp P a w (After w0 mu N K) Q := by
  refine ok_pu (fun r hr => ?_) hf h hd hK
  have hx := h.ev x
  obtain ⟨y, he, hc⟩ := hr
  rw [list1 he] at hx
  have hx' := sim_v hx
  have hyy : y = .nilIface ∨ ∃ t p, y = .iface t p := hc.imp (fun h => h.1) (fun h => h.1)
  have hg : (eqGuard op t x (.const .nilIface) y .nilIface).run P w = .ok () w := by
    unfold eqGuard
    rcases hyy with rfl | ⟨t', p, rfl⟩ <;> split <;> simp
  have hb : (binOp op t y .nilIface).run P w = .ok (.bool (ne ^^ (isNilV y))) w := by
    cases ne
    · simp only [Bool.false_eq_true, if_false] at hop
      subst hop
      rcases hyy with rfl | ⟨t', p, rfl⟩
      · show ((do pure (.bool (← Op.equal t .nilIface .nilIface)) : Sem Value)).run P w = _
        rw [Sem.run_bind, run_equal_inil ht _ (.inl rfl)]
        simp [isNilV]
      · show ((do pure (.bool (← Op.equal t (.iface t' p) .nilIface)) : Sem Value)).run P w = _
        rw [Sem.run_bind, run_equal_inil ht _ (.inr ⟨_, _, rfl⟩)]
        simp [isNilV]
    · simp only [if_true] at hop
      subst hop
      rcases hyy with rfl | ⟨t', p, rfl⟩
      · show ((do pure (.bool (!(← Op.equal t .nilIface .nilIface))) : Sem Value)).run P w = _
        rw [Sem.run_bind, run_equal_inil ht _ (.inl rfl)]
        simp [isNilV]
      · show ((do pure (.bool (!(← Op.equal t (.iface t' p) .nilIface))) : Sem Value)).run P w = _
        rw [Sem.run_bind, run_equal_inil ht _ (.inr ⟨_, _, rfl⟩)]
        simp [isNilV]
  have he2 : a.eval (.const .nilIface) = .nilIface := rfl
  refine ⟨.bool (ne ^^ (isNilV y)), ?_, ?_⟩
  · simp only [execOp, ho, hx', he2, Sem.run_bind, hg, Result.andThen_ok, hb, Sem.run_pure]
  · rcases hc with ⟨rfl, rfl⟩ | ⟨⟨t', p, rfl⟩, rfl⟩ <;> simp [SimV, isNilV]

/-- What a struct or an array is built of. -/
theorem pfill_sim {C : Ctx} (h : ∀ x : Operand, SimV (s.ev (opd x)) C (a.eval x)) (place : Nat → Option (Nat × Nat)) : ∀ (parts : List (Nat × Operand)) (pl : List (Nat × Nat)) (cs out : List AV) (cells : Array Value),
    parts.map (fun p => place p.1) = pl.map some → pfill cs pl (parts.map fun p => s.ev (opd p.2)) out → SimL cs C cells.toList → cells.size = cs.length →
      ∃ cells', Instr.fill place cells (parts.map fun p => (p.1, a.eval p.2)) = some cells' ∧ SimL out C cells'.toList ∧ cells'.size = out.length
  | [], [], cs, out, cells, _, hfill, hs, hsz => by
    simp only [List.map_nil, pfill] at hfill
    subst hfill
    exact ⟨cells, by simp [Instr.fill], hs, hsz⟩
  | [], _ :: _, _, _, _, hp, _, _, _ => by simp at hp
  | _ :: _, [], _, _, _, hp, _, _, _ => by simp at hp
  | (i, x) :: parts, (off, size) :: pl, cs, out, cells, hp, hfill, hs, hsz => by
    simp only [List.map_cons, pfill] at hfill
    simp only [List.map_cons, List.cons.injEq] at hp
    obtain ⟨hpi, hp⟩ := hp
    have hx := h x
    have step : ∀ (cs' : List AV), pfill cs' pl (parts.map fun p => s.ev (opd p.2)) out → (a.eval x).cells.size = size → off + size ≤ cells.size →
        SimL cs' C (cells.toList.take off ++ (a.eval x).cells.toList ++ cells.toList.drop (off + size)) → cs'.length = cells.size →
        ∃ cells', Instr.fill place cells (((i, x) :: parts).map fun p => (p.1, a.eval p.2)) = some cells' ∧ SimL out C cells'.toList ∧ cells'.size = out.length := by
      intro cs' hf' hz hle hs' hl'
      have h1 := fill_one off (a.eval x) cells (by omega)
      rw [hz] at h1
      have hs'' : SimL cs' C ((a.eval x).cells.zipIdx.foldl (fun (cs : Array Value) (p : Value × Nat) => cs.setIfInBounds (off + p.2) p.1) cells).toList := by rw [h1]; exact hs'
      have hsz' : ((a.eval x).cells.zipIdx.foldl (fun (cs : Array Value) (p : Value × Nat) => cs.setIfInBounds (off + p.2) p.1) cells).size = cs'.length := by
        rw [← Array.length_toList, h1]; simp; omega
      obtain ⟨cells', g1, g2⟩ := pfill_sim h place parts pl cs' out _ hp hf' hs'' hsz'
      refine ⟨cells', ?_, g2⟩
      simp only [List.map_cons, Instr.fill, hpi]
      rw [if_neg (by simp [hz]; omega)]
      exact g1
    rcases hfill with ⟨hz, hi, hok, hf'⟩ | ⟨l, hl, hll, hle, hf'⟩
    · have h1 := cellOk_one hok hx
      have hcells : (a.eval x).cells = #[a.eval x] := by
        generalize a.eval x = v at h1
        cases v <;> first | rfl | (simp [Value.oneCell'] at h1)
      refine step _ hf' (by rw [hcells, hz]; rfl) (by rw [hz]; omega) ?_ (by simp [hsz])
      have hset : cells.toList.take off ++ (a.eval x).cells.toList ++ cells.toList.drop (off + size) = cells.toList.set off (a.eval x) := by
        rw [List.set_eq_take_append_cons_drop, if_pos (by simp; omega), hcells, hz]
        simp
      rw [hset]
      exact SimL.set hs hx hi
    · rw [hl] at hx
      simp only [SimV] at hx
      obtain ⟨ar, hv, hsz2, hs2⟩ := hx
      refine step _ hf' (by rw [hv]; simp [Value.cells, hsz2, hll]) (by omega) ?_ (by simp; omega)
      have ht : SimL (cs.take off) C (cells.toList.take off) := (SimL.take off hs).shorter _ (by simp; omega)
      have := (ht.append (by simp; omega) hs2).append (by simp; omega) (hs.drop (off + size))
      rw [hv]
      exact this

theorem ok_bld_of {t : TypeId} {parts : Array (Nat × Operand)} {z : Value} {pl : List (Nat × Nat)} (ho : o.op = .build t parts)
    (place : Nat → Option (Nat × Nat)) (hrun : ∀ vs cells, Instr.fill place z.cells vs.toList = some cells → (Instr.build t vs).run P w = .ok (.agg cells) w) (hpl : parts.toList.map (fun p => place p.1) = pl.map some)
    (hf : a.defers = []) (h : Sim w0 mu N s a.tmps w phi ro) (hd : ∀ k, o.dst = some k → k < N) (hK : aexec P own (.pu (.bld z.cells.toList pl) (parts.toList.map fun p => opd p.2)) o.dst s K) : o.wp P a w (After w0 mu N K) Q := by
  refine ok_pu (fun r hr => ?_) hf h hd hK
  obtain ⟨out, hfill, rfl⟩ := hr
  rw [List.map_map] at hfill
  obtain ⟨cells', g1, g2, g3⟩ := pfill_sim (C := ctx w0 w ro phi s) (a := a) (fun x => h.ev x) place parts.toList pl _ out z.cells hpl hfill (simL_v _) (by simp)
  refine ⟨.agg cells', ?_, by simp only [SimV]; exact ⟨_, rfl, g3, g2⟩⟩
  have := hrun (parts.map fun p => (p.1, a.eval p.2)) cells' (by simpa using g1)
  simp [execOp, ho, this]

theorem mapM_some_map {α β : Type} {f : α → Option β} : ∀ {l : List α} {out : List β}, l.mapM f = some out → l.map f = out.map some
  | [], out, h => by simp at h; subst h; rfl
  | x :: l, out, h => by
    rw [List.mapM_cons] at h
    simp only [Option.bind_eq_bind, Option.bind_eq_some_iff, Option.pure_def, Option.some.injEq] at h
    obtain ⟨y, h1, out', h2, rfl⟩ := h
    simp [h1, mapM_some_map h2]
theorem run_places (w : World) : ∀ (l : List Field), (∀ f ∈ l, (P.info? f.type).isSome = true) → (l.mapM (m := Sem) fun f => do pure (f.offset, ← sizeOf f.type)).run P w = .ok (l.map fun f => (f.offset, ((P.info? f.type).map (·.size)).getD 0)) w
  | [], _ => by simp
  | f :: l, h => by
    obtain ⟨inf, hi⟩ := Option.isSome_iff_exists.1 (h f (List.mem_cons_self ..))
    have h1 : (sizeOf f.type).run P w = .ok inf.size w := by simp [sizeOf, typeInfo, hi]
    rw [List.mapM_cons]
    simp only [Sem.run_bind, h1, Result.andThen_ok, Sem.run_pure, run_places w l fun g hg => h g (List.mem_cons_of_mem _ hg), List.map_cons, hi, Option.map_some, Option.getD_some]

theorem ok_bld_struct {t : TypeId} {parts : Array (Nat × Operand)} {i : TypeInfo} {z : Value} {fields : Array Field} {pl : List (Nat × Nat)} (ho : o.op = .build t parts) (ht : P.underlying t = some (.struct fields)) (hi : P.info? t = some i) (hz : i.zero = some z)
    (hall : ∀ f ∈ fields.toList, (P.info? f.type).isSome = true) (hpl : (parts.toList.mapM fun p => (fields[p.1]?).bind fun f => (P.info? f.type).map fun inf => (f.offset, inf.size)) = some pl)
    (hf : a.defers = []) (h : Sim w0 mu N s a.tmps w phi ro) (hd : ∀ k, o.dst = some k → k < N) (hK : aexec P own (.pu (.bld z.cells.toList pl) (parts.toList.map fun p => opd p.2)) o.dst s K) : o.wp P a w (After w0 mu N K) Q := by
  have hrp := run_places (P := P) w fields.toList hall
  have hplaces : (fields.mapM (m := Sem) fun f => do pure (f.offset, ← sizeOf f.type)).run P w = .ok (fields.map fun f => (f.offset, ((P.info? f.type).map (·.size)).getD 0)) w := by
    rw [Array.mapM_eq_mapM_toList, Sem.run_map, hrp]
    show Result.ok _ w = Result.ok _ w
    congr 1
    apply Array.ext'
    simp
  have hz1 : (zeroValue t).run P w = .ok z w := by simp [zeroValue, typeInfo, hi, hz]
  refine ok_bld_of (place := fun k => (fields.map fun f => (f.offset, ((P.info? f.type).map (·.size)).getD 0))[k]?) ho (fun vs cells hfl => ?_) ?_ hf h hd hK
  · unfold Instr.build
    simp only [Sem.run_bind, hz1, Result.andThen_ok, run_underlying ht, hplaces]
    simp only [hfl]
    simp
  · have := mapM_some_map hpl
    rw [← this]
    refine List.map_congr_left fun p _ => ?_
    simp only [Array.getElem?_map]
    cases hfp : fields[p.1]? with
    | none => simp
    | some f =>
      have hm : f ∈ fields.toList := by
        obtain ⟨hlt, rfl⟩ := Array.getElem?_eq_some_iff.1 hfp
        simp
      obtain ⟨inf, hinf⟩ := Option.isSome_iff_exists.1 (hall f hm)
      simp [hinf]

theorem ok_bld_array {t e : TypeId} {n : Nat} {parts : Array (Nat × Operand)} {i inf : TypeInfo} {z : Value} (ho : o.op = .build t parts) (ht : P.underlying t = some (.array n e)) (hi : P.info? t = some i) (hz : i.zero = some z) (hinf : P.info? e = some inf)
    (hf : a.defers = []) (h : Sim w0 mu N s a.tmps w phi ro) (hd : ∀ k, o.dst = some k → k < N)
    (hK : aexec P own (.pu (.bld z.cells.toList (parts.toList.map fun p => (p.1 * inf.size, inf.size))) (parts.toList.map fun p => opd p.2)) o.dst s K) : o.wp P a w (After w0 mu N K) Q := by
  refine ok_bld_of (place := fun k => some (k * inf.size, inf.size)) ho (fun vs cells hfl => ?_) (by simp) hf h hd hK
  simp [Instr.build, zeroValue, typeInfo, hi, hz, run_underlying ht, sizeOf, hinf] at hfl ⊢
  simp [hfl]

theorem ok_acut {t e : TypeId} {n : Nat} {x : Operand} {lo hi' : Option Operand} {i : TypeInfo} (ho : o.op = .slice t x lo hi' none) (ht : P.underlying t = some (.array n e)) (hi : P.info? e = some i)
    (hf : a.defers = []) (h : Sim w0 mu N s a.tmps w phi ro) (hd : ∀ k, o.dst = some k → k < N)
    (hK : aexec P own (.acut i.size n (opd x) (lo.map opd) (hi'.map opd)) o.dst s K) : o.wp P a w (After w0 mu N K) Q := by
  obtain ⟨r, off, l, hh, fl, cs, he, hr, hlo, hhi, h1, h2, h3, h4, hK⟩ := hK
  have hx := h.ev x
  have hlo' := opt_bound (d := 0) (fun y => h.ev y) hlo
  have hhi' := opt_bound (d := n) (fun y => h.ev y) hhi
  rw [he] at hx
  simp only [SimV] at hx
  obtain ⟨hc, hl, b, hb, hy, cur0, e0, hcell0⟩ := hx
  obtain ⟨cur, e', hcell, hsim, _⟩ := h.cell hr hb hcell0
  have hlen := hsim.list.length_le
  simp only [Array.length_toList] at hlen
  have hsb : ∀ (k : IntKind) (x y : Nat) (code : BoundsCode), x ≤ y → (Instr.sliceBound (.int k x) y code).run P w = .ok x w := by
    intro k x y code hxy
    rw [run_sliceBound (P := P) w k x y code (by omega) (by omega)]
    simp
  have hbs : (Instr.sliceBounds false n n (lo.map a.eval) (hi'.map a.eval) none).run P w = .ok (l, hh, n) w := by
    unfold Instr.sliceBounds
    generalize lo.map a.eval = lo2 at hlo'
    generalize hi'.map a.eval = hi2 at hhi'
    cases lo2 with
    | none =>
      simp only [BndV] at hlo'
      subst hlo'
      cases hi2 with
      | none => simp only [BndV] at hhi'; subst hhi'; simp
      | some y =>
        obtain ⟨k, rfl⟩ := hhi'
        simp [hsb k hh n _ (by omega)]
    | some x =>
      obtain ⟨kx, rfl⟩ := hlo'
      cases hi2 with
      | none => simp only [BndV] at hhi'; subst hhi'; simp [hsb kx l hh _ h1]
      | some y =>
        obtain ⟨k, rfl⟩ := hhi'
        simp [hsb k hh n _ (by omega), hsb kx l hh _ h1]
  refine wp_value (v := .slice (some (if n = l then ⟨b, off, none⟩ else ⟨b, off + l * i.size, none⟩)) (hh - l) (n - l)) (w' := w) ?_ (After.put hf h hd ?_ hK)
  · simp [execOp, ho, Instr.sliceAt, Instr.sureAddr, run_underlying ht, hy, hbs, sizeOf, typeInfo, hi, addr_add]
  · simp only [SimV]
    refine ⟨hc, hl, .inr ?_⟩
    by_cases hnl : n = l
    · rw [if_pos hnl]
      refine ⟨b, off, n - l, cur, e', hb, rfl, hcell, ?_, by omega, by omega, by have : (n - l) * i.size = 0 := by rw [hnl]; simp
                                                                                 omega⟩
      by_cases hz : l * i.size = 0
      · exact .inl (by omega)
      · exact .inr ⟨by omega, by omega⟩
    · rw [if_neg hnl]
      refine ⟨b, off + l * i.size, n - l, cur, e', hb, rfl, hcell, .inl rfl, by omega, ?_, ?_⟩
      · simp only [maxLen]; omega
      · have : l * i.size + (n - l) * i.size = n * i.size := by rw [← Nat.add_mul]; congr 1; omega
        omega

theorem byteVs_sim {C : Ctx} : ∀ {bs : List UInt8} {news : List Value}, SimL (byteVs bs) C news → news.length = bs.length → news = bs.map fun b => .int .u8 b.toNat
  | [], [], _, _ => rfl
  | [], _ :: _, _, hl => by simp at hl
  | _ :: _, [], _, hl => by simp at hl
  | b :: bs, y :: news, h, hl => by
    simp only [byteVs, List.map_cons, SimL, SimV] at h
    rw [List.map_cons, h.1, byteVs_sim h.2 (by simpa using hl)]

theorem push_all : ∀ (bs : List UInt8) (acc : ByteArray), bs.foldl (fun s b => s.push b) acc = ⟨acc.data ++ bs.toArray⟩
  | [], acc => by cases acc; simp
  | b :: bs, acc => by
    rw [List.foldl_cons, push_all bs]
    cases acc
    simp [ByteArray.push]

theorem run_push (w : World) : ∀ (bs : List UInt8) (acc : ByteArray),
    (forIn (m := Sem) (bs.map fun b => Value.int .u8 b.toNat) acc fun c s => (match c with
      | .int .u8 n => pure (ForInStep.yield (s.push (UInt8.ofNat n.toNat)))
      | _ => do let _ ← (stuck "bytesToString: byte expected" : Sem PUnit); pure (ForInStep.yield s))).run P w = .ok (bs.foldl (fun s b => s.push b) acc) w
  | [], acc => by simp
  | b :: bs, acc => by
    rw [List.map_cons, List.forIn_cons]
    simp only [Int.toNat_natCast, Sem.run_bind, Sem.run_pure, Result.andThen_ok, List.foldl_cons]
    rw [show UInt8.ofNat b.toNat = b from by simp]
    exact run_push w bs _

theorem ok_bts {u t e : TypeId} {x : Operand} (ho : o.op = .convert u t x) (hu : P.underlying u = some (.slice e)) (he : P.underlying e = some (.int .u8)) (ht : P.underlying t = some .string)
    (hf : a.defers = []) (h : Sim w0 mu N s a.tmps w phi ro) (hd : ∀ k, o.dst = some k → k < N) (hK : aexec P own (.bts (opd x)) o.dst s K) : o.wp P a w (After w0 mu N K) Q := by
  obtain ⟨bs, hE, hK⟩ := hK
  obtain ⟨yb, yc, news, hy, hl, _, hs, hrun⟩ := elems_sim h hE (h.ev x)
  have hnews := byteVs_sim hs (by omega)
  subst hnews
  have hr := hrun w rfl
  refine wp_value (v := .string ⟨bs.toArray⟩) (w' := w) ?_ (After.put hf h hd sim_mk hK)
  cases yb with
  | none =>
    have : bs = [] := by
      rw [hy] at hr
      simp [Builtin.firstCells] at hr
      exact hr
    subst this
    simp [execOp, ho, convert, run_underlying hu, run_underlying ht, run_underlying he, hy, Conv.bytesToString]
    rfl
  | some ad =>
    have hr' : (loadCells ad bs.length).run P w = .ok (bs.map fun b => Value.int .u8 b.toNat).toArray w := by
      rw [hy] at hr
      simpa [Builtin.firstCells] using hr
    have hp := run_push (P := P) w bs ByteArray.empty
    rw [push_all] at hp
    simp [execOp, ho, convert, run_underlying hu, run_underlying ht, run_underlying he, hy, Conv.bytesToString, hr']
    simp at hp
    exact hp
theorem ok_rng {t : TypeId} {x : Operand} (ho : o.op = .range t x) (ht : P.underlying t = some .string)
    (hf : a.defers = []) (h : Sim w0 mu N s a.tmps w phi ro) (hd : ∀ k, o.dst = some k → k < N) (hK : aexec P own (.rng (opd x)) o.dst s K) : o.wp P a w (After w0 mu N K) Q := by
  obtain ⟨r, b, hr, hx, hK⟩ := hK
  have hx' := h.ev x
  rw [hx] at hx'
  have hx' := sim_v hx'
  obtain ⟨phi', hp, h1⟩ := h.newOb (More.alloc w _) r (Nat.lt_of_lt_of_le (hd r hr) h.npb) (o := .stringIter b 0) (Nat.le_refl _) (heap_alloc_new w _) rfl
  refine wp_value (v := .pointer (some ⟨w.heap.size, 0, none⟩)) (w' := w.alloc (.stringIter b 0)) ?_ (After.put hf h1 hd ?_ hK)
  · simp [execOp, ho, Instr.range, run_underlying ht, hx', newObj, Sem.run]
  · simp only [SimV]
    exact ⟨rfl, by simp [ctx, AS.mem], _, hp, rfl⟩

/-- The object that a region holds. -/
theorem ob_at (h : Sim w0 mu N s a.tmps w phi ro) {r k : Nat} {ob : Obj} (hr : s.hp r = some (true, [.ob ob])) (hk : phi r = some k) : w.heap[k]? = some ob := by
  rcases h.liv r _ hr with ⟨_, h2, _⟩ | ⟨k', cur, e, _, _, _, _, h5⟩ | ⟨k', o', h0, h1, h2, _⟩
  · simp at h2
  · simp only [SimR, if_true] at h5
    cases hc : cur.toList with
    | nil => rw [hc] at h5; simp [SimL] at h5
    | cons y ys => rw [hc] at h5; simp [SimL, SimV] at h5
  · simp only [Prod.mk.injEq, List.cons.injEq, and_true, true_and, AV.ob.injEq] at h0
    rw [hk] at h1
    cases h1
    rw [h2, ← h0]

theorem ok_mmk {t : TypeId} (ho : o.op = .makeMap t none)
    (hf : a.defers = []) (h : Sim w0 mu N s a.tmps w phi ro) (hd : ∀ k, o.dst = some k → k < N) (hK : aexec P own .mmk o.dst s K) : o.wp P a w (After w0 mu N K) Q := by
  obtain ⟨r, hr, hK⟩ := hK
  obtain ⟨phi', hp, h1⟩ := h.newOb (More.alloc w _) r (Nat.lt_of_lt_of_le (hd r hr) h.npb) (o := .map #[] 0) (Nat.le_refl _) (heap_alloc_new w _) rfl
  refine wp_value (v := .map (some w.heap.size)) (w' := w.alloc (.map #[] 0)) ?_ (After.put hf h1 hd ?_ hK)
  · simp [execOp, ho, Instr.makeMap, newObj, Sem.run]
  · simp only [SimV]
    exact ⟨rfl, by simp [ctx, AS.mem], _, hp, rfl⟩

theorem ok_mget {t kt et : TypeId} {x i : Operand} {ok : Bool} {k : IntKind} {inf : TypeInfo} {z : Value} (ho : o.op = .lookup t x i ok) (ht : P.underlying t = some (.map kt et)) (hkt : P.underlying kt = some (.int k))
    (hi : P.info? et = some inf) (hz : inf.zero = some z)
    (hf : a.defers = []) (h : Sim w0 mu N s a.tmps w phi ro) (hd : ∀ k, o.dst = some k → k < N) (hK : aexec P own (.mget k z ok (opd x) (opd i)) o.dst s K) : o.wp P a w (After w0 mu N K) Q := by
  obtain ⟨r, es, clock, j, hx, hr, hj, hkeys, hK1, hK2⟩ := hK
  have hx' := h.ev x
  have hj' := h.ev i
  rw [hx] at hx'
  rw [hj] at hj'
  have hj' := sim_v hj'
  simp only [SimV] at hx'
  obtain ⟨_, _, b, hb, hx'⟩ := hx'
  have hcell := ob_at h hr hb
  have hik : MapKept.IsKey (.int k) (.int k j) := rfl
  have hiks : ∀ e ∈ es.toList, MapKept.IsKey (.int k) e.key := fun e he => by
    obtain ⟨q, hq⟩ := hkeys e he
    rw [hq]; rfl
  rcases MapKept.findNow_spec hik es.toList 0 hiks with ⟨h1, h2⟩ | ⟨n, e, h1, h2, h3⟩
  · refine wp_value (v := if ok then .tuple #[z, .bool false] else z) (w' := w) ?_ (After.put hf h hd ?_ (hK2 h2))
    · simp [execOp, ho, Instr.lookup, run_underlying ht, hx', hj', MapKept.run_getObj_map hcell, MapKept.run_checkKey hkt hik, MapKept.run_findKey hkt h1, zeroValue, typeInfo, hi, hz]
    · cases ok <;> simp [mres, SimV, SimL]
  · refine wp_value (v := if ok then .tuple #[e.val, .bool true] else e.val) (w' := w) ?_ (After.put hf h hd ?_ (hK1 e (List.mem_of_getElem? h2) h3))
    · simp [execOp, ho, Instr.lookup, run_underlying ht, hx', hj', MapKept.run_getObj_map hcell, MapKept.run_checkKey hkt hik, MapKept.run_findKey hkt h1]
    · cases ok <;> simp [mres, SimV, SimL]

theorem ok_mput {t kt et : TypeId} {x i y : Operand} {k : IntKind} (ho : o.op = .mapUpdate t x i y ∨ o.op = .insert t x i y) (ht : P.underlying t = some (.map kt et)) (hkt : P.underlying kt = some (.int k))
    (hf : a.defers = []) (h : Sim w0 mu N s a.tmps w phi ro) (hdst : o.dst = none) (hK : aexec P own (.mput k (opd x) (opd i) (opd y)) o.dst s K) : o.wp P a w (After w0 mu N K) Q := by
  obtain ⟨r, es, clock, j, v, hx, hr, hj, hy, hkeys, hK1, hK2⟩ := hK
  have hx' := h.ev x
  have hj' := h.ev i
  have hy' := h.ev y
  rw [hx] at hx'
  rw [hj] at hj'
  rw [hy] at hy'
  have hj' := sim_v hj'
  have hy' := sim_v hy'
  simp only [SimV] at hx'
  obtain ⟨_, _, b, hb, hx'⟩ := hx'
  have hb : phi r = some b := hb
  have hcell := ob_at h hr hb
  have hlt := lt_of_get hcell
  have hik : MapKept.IsKey (.int k) (.int k j) := rfl
  have hiks : ∀ e ∈ es.toList, MapKept.IsKey (.int k) e.key := fun e he => by
    obtain ⟨q, hq⟩ := hkeys e he
    rw [hq]; rfl
  have fin : ∀ o' : Obj, isCells o' = false → K (s.mem r (true, [.ob o'])) → (execOp a.eval o).run P w = .ok .skip { w with heap := w.heap.setIfInBounds b o' } → o.wp P a w (After w0 mu N K) Q := by
    intro o' ho' hK hrun
    refine wp_skip_op hrun ⟨_, hK, by rw [put_defers]; exact hf, phi, ro, ?_⟩
    rw [hdst]
    exact h.writeOb hr hb hcell rfl (by simp [hlt]) ho' (fun q hq _ => by simp [Ne.symm hq]) rfl rfl rfl (by simp)
  rcases MapKept.findNow_spec hik es.toList 0 hiks with ⟨h1, h2⟩ | ⟨n, e, h1, h2, h3⟩
  · refine fin _ rfl (hK2 h2) ?_
    rcases ho with ho | ho <;> simp [execOp, ho, Instr.mapUpdate, run_underlying ht, hx', hj', hy', MapKept.run_getObj_map hcell, MapKept.run_checkKey hkt hik, MapKept.run_findKey hkt h1, MapKept.run_setObj_map _ hcell]
  · refine fin _ rfl (hK1 n e h2 h3) ?_
    have h2' : es[n]? = some e := by simpa using h2
    have hst : (Instr.keyThatStays e.key (.int k j)).run P w = .ok (.int k j) w := by
      rw [h3]; exact MapKept.run_keyThatStays hik
    rcases ho with ho | ho <;> simp [execOp, ho, Instr.mapUpdate, run_underlying ht, hx', hj', hy', MapKept.run_getObj_map hcell, MapKept.run_checkKey hkt hik, MapKept.run_findKey hkt h1, h2', hst, MapKept.run_setObj_map _ hcell]

theorem mapAt_cell (h : Sim w0 mu N s a.tmps w phi ro) {x : AV} {y : Value} {es : Array MapEntry} {clock : Nat} (hm : MapAt s x es clock) (hx : SimV x (ctx w0 w ro phi s) y) : ∃ b, y = .map (some b) ∧ w.heap[b]? = some (.map es clock) := by
  rcases hm with ⟨r, rfl, hr⟩ | ⟨fr, rfl⟩
  · simp only [SimV] at hx
    obtain ⟨_, _, b, hb, hy⟩ := hx
    exact ⟨b, hy, ob_at h hr hb⟩
  · simp only [SimV] at hx
    obtain ⟨b, hy, hb, _⟩ := hx
    exact ⟨b, hy, hb⟩

theorem ok_mgetk {t kt et : TypeId} {x i : Operand} {ok : Bool} {inf : TypeInfo} {z : Value} (ho : o.op = .lookup t x i ok) (ht : P.underlying t = some (.map kt et))
    (hi : P.info? et = some inf) (hz : inf.zero = some z)
    (hf : a.defers = []) (h : Sim w0 mu N s a.tmps w phi ro) (hd : ∀ k, o.dst = some k → k < N) (hK : aexec P own (.mgetk kt z ok (opd x) (opd i)) o.dst s K) : o.wp P a w (After w0 mu N K) Q := by
  obtain ⟨KL, es, clock, kv, hx, hj, ⟨lk, hlk⟩, hkeys, res, hK1, hK2, hK⟩ := hK
  obtain ⟨b, hx', hcell⟩ := mapAt_cell h hx (h.ev x)
  have hj' := exV_sim _ _ _ _ hj (h.ev i)
  rcases KL.find w hlk es.toList hkeys with ⟨h1, h2⟩ | ⟨n, e, h1, h2, h3⟩
  · refine wp_value (v := if ok then .tuple #[z, .bool false] else z) (w' := w) ?_ (After.put hf h hd (x := res) ?_ hK)
    · simp [execOp, ho, Instr.lookup, run_underlying ht, hx', hj', MapKept.run_getObj_map hcell, KL.check w _ hlk, h1, zeroValue, typeInfo, hi, hz]
    · rw [← hK2 h2]; cases ok <;> simp [mres, SimV, SimL]
  · refine wp_value (v := if ok then .tuple #[e.val, .bool true] else e.val) (w' := w) ?_ (After.put hf h hd (x := res) ?_ hK)
    · simp [execOp, ho, Instr.lookup, run_underlying ht, hx', hj', MapKept.run_getObj_map hcell, KL.check w _ hlk, h1]
    · rw [← hK1 e (List.mem_of_getElem? h2) h3]; cases ok <;> simp [mres, SimV, SimL]

theorem ok_mputk {t kt et : TypeId} {x i y : Operand} (ho : o.op = .mapUpdate t x i y ∨ o.op = .insert t x i y) (ht : P.underlying t = some (.map kt et))
    (hf : a.defers = []) (h : Sim w0 mu N s a.tmps w phi ro) (hdst : o.dst = none) (hK : aexec P own (.mputk kt (opd x) (opd i) (opd y)) o.dst s K) : o.wp P a w (After w0 mu N K) Q := by
  obtain ⟨KL, r, es, clock, kv, v, hx, hr, hj, hy, ⟨lk, hlk⟩, hkeys, hK1, hK2⟩ := hK
  have hx' := h.ev x
  have hj' := exV_sim _ _ _ _ hj (h.ev i)
  have hy' := h.ev y
  rw [hx] at hx'
  rw [hy] at hy'
  have hy' := sim_v hy'
  simp only [SimV] at hx'
  obtain ⟨_, _, b, hb, hx'⟩ := hx'
  have hb : phi r = some b := hb
  have hcell := ob_at h hr hb
  have hlt := lt_of_get hcell
  have fin : ∀ o' : Obj, isCells o' = false → K (s.mem r (true, [.ob o'])) → (execOp a.eval o).run P w = .ok .skip { w with heap := w.heap.setIfInBounds b o' } → o.wp P a w (After w0 mu N K) Q := by
    intro o' ho' hK hrun
    refine wp_skip_op hrun ⟨_, hK, by rw [put_defers]; exact hf, phi, ro, ?_⟩
    rw [hdst]
    exact h.writeOb hr hb hcell rfl (by simp [hlt]) ho' (fun q hq _ => by simp [Ne.symm hq]) rfl rfl rfl (by simp)
  rcases KL.find w hlk es.toList hkeys with ⟨h1, h2⟩ | ⟨n, e, h1, h2, h3⟩
  · refine fin _ rfl (hK2 h2) ?_
    rcases ho with ho | ho <;> simp [execOp, ho, Instr.mapUpdate, run_underlying ht, hx', hj', hy', MapKept.run_getObj_map hcell, KL.check w _ hlk, h1, MapKept.run_setObj_map _ hcell]
  · refine fin _ rfl (hK1 n e h2 h3) ?_
    have h2' : es[n]? = some e := by simpa using h2
    have hst : (Instr.keyThatStays e.key kv).run P w = .ok kv w := by
      rw [h3]; exact KL.stays w hlk
    rcases ho with ho | ho <;> simp [execOp, ho, Instr.mapUpdate, run_underlying ht, hx', hj', hy', MapKept.run_getObj_map hcell, KL.check w _ hlk, h1, h2', hst, MapKept.run_setObj_map _ hcell]

/-- The map that an iterator runs over. -/
theorem mit_cell (h : Sim w0 mu N s a.tmps w phi ro) {r bm : Nat} {m : Option Nat} {es0 es : Array MapEntry} {ck0 clock : Nat} {y : Value} (hx : SimV (.mit r m bm es0 ck0) (ctx w0 w ro phi s) y)
    (hm : (∃ q, m = some q ∧ q ≠ r ∧ s.hp q = some (true, [.ob (.map es clock)])) ∨ (m = none ∧ es = es0 ∧ clock = ck0)) :
    (∃ b, phi r = some b ∧ y = .pointer (some ⟨b, 0, none⟩)) ∧ w.heap[bm]? = some (.map es clock) := by
  simp only [SimV] at hx
  obtain ⟨_, _, ⟨b, hb, hy⟩, h3⟩ := hx
  refine ⟨⟨b, hb, hy⟩, ?_⟩
  rcases hm with ⟨q, rfl, _, hq⟩ | ⟨rfl, rfl, rfl⟩
  · rcases h3 with ⟨q', h4, _, h5⟩ | ⟨h4, _⟩
    · cases h4
      exact ob_at h hq h5
    · cases h4
  · rcases h3 with ⟨q', h4, _, h5⟩ | ⟨_, _, h5⟩
    · cases h4
    · exact h5

theorem ok_mrg {t kt et : TypeId} {x : Operand} (ho : o.op = .range t x) (ht : P.underlying t = some (.map kt et))
    (hf : a.defers = []) (h : Sim w0 mu N s a.tmps w phi ro) (hd : ∀ k, o.dst = some k → k < N) (hK : aexec P own (.mrg (opd x)) o.dst s K) : o.wp P a w (After w0 mu N K) Q := by
  obtain ⟨r, hr, hK⟩ := hK
  have hx' := h.ev x
  have hrN := Nat.lt_of_lt_of_le (hd r hr) h.npb
  rcases hK with ⟨q, es, clock, hx, hqr, hq, hK⟩ | ⟨fr, es, clock, hx, hK⟩
  · rw [hx] at hx'
    simp only [SimV] at hx'
    obtain ⟨_, _, bm, hbm, hy⟩ := hx'
    have hbm : phi q = some bm := hbm
    have hcell := ob_at h hq hbm
    obtain ⟨phi', hp, hphi, h1⟩ := h.newOb2 (More.alloc w _) r hrN (o := .mapIter (some bm) clock #[] clock) (Nat.le_refl _) (heap_alloc_new w _) rfl
    have hq' : ((s.kill r).mem r (true, [.ob (.mapIter (some bm) clock #[] clock)])).hp q = some (true, [.ob (.map es clock)]) := by simp [AS.mem, AS.kill, hqr, hq, killR]
    refine wp_value (v := .pointer (some ⟨w.heap.size, 0, none⟩)) (w' := w.alloc (.mapIter (some bm) clock #[] clock)) ?_ (After.put hf h1 hd ?_ (hK bm))
    · simp [execOp, ho, Instr.range, run_underlying ht, hy, MapKept.run_getObj_map hcell]
    · simp only [SimV]
      exact ⟨rfl, by simp [ctx, AS.mem], ⟨_, hp, rfl⟩, .inl ⟨q, rfl, by simp [ctx, hq'], (hphi q hqr).trans hbm⟩⟩
  · rw [hx] at hx'
    simp only [SimV] at hx'
    obtain ⟨bm, hy, hcell, hro, _⟩ := hx'
    obtain ⟨phi', hp, hphi, h1⟩ := h.newOb2 (More.alloc w _) r hrN (o := .mapIter (some bm) clock #[] clock) (Nat.le_refl _) (heap_alloc_new w _) rfl
    refine wp_value (v := .pointer (some ⟨w.heap.size, 0, none⟩)) (w' := w.alloc (.mapIter (some bm) clock #[] clock)) ?_ (After.put hf h1 hd ?_ (hK bm))
    · simp [execOp, ho, Instr.range, run_underlying ht, hy, MapKept.run_getObj_map hcell]
    · simp only [SimV]
      exact ⟨rfl, by simp [ctx, AS.mem], ⟨_, hp, rfl⟩, .inr ⟨by trivial, hro, (heap_alloc_old w _ (lt_of_get hcell)).trans hcell⟩⟩

theorem ok_mnx {x : Operand} (ho : o.op = .next x false)
    (hf : a.defers = []) (h : Sim w0 mu N s a.tmps w phi ro) (hd : ∀ k, o.dst = some k → k < N) (hK : aexec P own (.mnx (opd x)) o.dst s K) : o.wp P a w (After w0 mu N K) Q := by
  obtain ⟨r, m, bm, es0, ck0, since, seen, c0, es, clock, hx, hr, hm, hold, hsc, hK1, hK2⟩ := hK
  have hx' := h.ev x
  rw [hx] at hx'
  obtain ⟨⟨b, hb, hy⟩, hmap⟩ := mit_cell h hx' hm
  have hit := ob_at h hr hb
  have hlt := lt_of_get hit
  rcases run_next_at (P := P) w o.type b bm since c0 seen es clock hit hmap hold hsc with ⟨h1, h2⟩ | ⟨e, he, w1, hw1, h2⟩
  · have hall : ∀ e ∈ es.toList, seen.contains e.born = true := by
      intro e he
      have h3 : leftOf es seen = #[] := Array.eq_empty_of_size_eq_zero h1
      rw [leftOf, Array.filter_eq_empty_iff] at h3
      simpa using h3 e (by simpa using he)
    refine wp_value (v := .tuple #[.bool false]) (w' := w) ?_ (After.put hf h hd ?_ (hK1 hall))
    · simp [execOp, ho, hy, h2]
    · simp [SimV, SimL]
  · have he' : e ∈ es.toList ∧ seen.contains e.born = false := by
      simp only [leftOf, Array.mem_toList_iff, Array.mem_filter] at he
      exact ⟨by simpa using he.1, by simpa using he.2⟩
    have hmore : More w w1 := by rcases hw1 with rfl | rfl; exact More.refl _; exact More.drew _
    have h1 := h.more_same hmore
    have hit1 : w1.heap[b]? = some (.mapIter (some bm) since seen c0) := by rcases hw1 with rfl | rfl <;> exact hit
    have hsim := h1.writeOb (w' := ChangeMaps.setBlock w1 b (.mapIter (some bm) since (seen.push e.born) clock)) hr hb hit1 rfl (o' := .mapIter (some bm) since (seen.push e.born) clock)
      (by have := lt_of_get hit1; simp [ChangeMaps.setBlock, this]) rfl (fun j hj _ => by simp [ChangeMaps.setBlock, Ne.symm hj]) rfl rfl rfl (by simp [ChangeMaps.setBlock])
    refine wp_value (v := .tuple #[.bool true, e.key, e.val]) ?_ (After.put hf hsim hd ?_ (hK2 e he'.1 he'.2))
    · simp [execOp, ho, hy, h2]
    · simp [SimV, SimL]

theorem ok_ment {x : Operand} (ho : o.op = .entry x)
    (hf : a.defers = []) (h : Sim w0 mu N s a.tmps w phi ro) (hd : ∀ k, o.dst = some k → k < N) (hK : aexec P own (.ment (opd x)) o.dst s K) : o.wp P a w (After w0 mu N K) Q := by
  obtain ⟨r, m, bm, es0, ck0, since, seen, es, clock, e, ka, va, hx, hr, hm, he, hn, hka, hva, hK⟩ := hK
  have hx' := h.ev x
  rw [hx] at hx'
  obtain ⟨⟨b, hb, hy⟩, hmap⟩ := mit_cell h hx' hm
  have hit := ob_at h hr hb
  refine wp_value (v := .tuple #[e.key, e.val]) (w' := w) ?_ (After.put hf h hd ?_ hK)
  · simp [execOp, ho, hy, run_entry_at (P := P) w b bm since seen es clock e hit hmap he hn]
  · simp only [SimV]
    refine ⟨_, rfl, rfl, ?_⟩
    simp only [SimL]
    exact ⟨exV_mk _ _ _ hka, exV_mk _ _ _ hva, trivial⟩

theorem ok_mdel {t kt et : TypeId} {x i : Operand} {tys : Array TypeId} (ho : o.op = .call { callee := .builtin .delete, args := #[x, i], argTypes := tys }) (hty : tys[0]? = some t) (ht : P.underlying t = some (.map kt et))
    (hf : a.defers = []) (h : Sim w0 mu N s a.tmps w phi ro) (hd : ∀ k, o.dst = some k → k < N) (hK : aexec P own (.mdel kt (opd x) (opd i)) o.dst s K) : o.wp P a w (After w0 mu N K) Q := by
  obtain ⟨KL, r, es, clock, kv, hx, hr, hj, ⟨lk, hlk⟩, hkeys, hK1, hK2⟩ := hK
  have hx' := h.ev x
  have hj' := exV_sim _ _ _ _ hj (h.ev i)
  rw [hx] at hx'
  simp only [SimV] at hx'
  obtain ⟨_, _, b, hb, hx'⟩ := hx'
  have hb : phi r = some b := hb
  have hcell := ob_at h hr hb
  have hlt := lt_of_get hcell
  have fin : ∀ o' : Obj, isCells o' = false → K ((s.mem r (true, [.ob o'])).put o.dst (.tup [])) → (execOp a.eval o).run P w = .ok (.value (.tuple #[])) { w with heap := w.heap.setIfInBounds b o' } → o.wp P a w (After w0 mu N K) Q := by
    intro o' ho' hK hrun
    have hsim := h.writeOb (w' := { w with heap := w.heap.setIfInBounds b o' }) hr hb hcell rfl (o' := o') (by simp [hlt]) ho' (fun q hq _ => by simp [Ne.symm hq]) rfl rfl rfl (by simp)
    exact wp_value hrun (After.put hf hsim hd (by simp [SimV, SimL]) hK)
  rcases KL.find w hlk es.toList hkeys with ⟨h1, h2⟩ | ⟨n, e, h1, h2, h3⟩
  · refine fin _ rfl (hK2 h2) ?_
    simp [execOp, ho, resolve, invoke, builtin, Builtin.delete_, hty, run_underlying ht, hx', hj', MapKept.run_getObj_map hcell, KL.check w _ hlk, h1, MapKept.run_setObj_map _ hcell]
  · refine fin _ rfl (hK1 n e h2 h3) ?_
    simp [execOp, ho, resolve, invoke, builtin, Builtin.delete_, hty, run_underlying ht, hx', hj', MapKept.run_getObj_map hcell, KL.check w _ hlk, h1, MapKept.run_setObj_map _ hcell]

theorem ok_mnil {t kt et u : TypeId} {x : Operand} {op : BinOp} {ne : Bool} (ho : o.op = .binOp op t x (.const (.map none)) u) (hop : (op = .eql ∧ ne = false) ∨ (op = .neq ∧ ne = true)) (ht : P.underlying t = some (.map kt et))
    (hf : a.defers = []) (h : Sim w0 mu N s a.tmps w phi ro) (hd : ∀ k, o.dst = some k → k < N) (hK : aexec P own (.mnil ne (opd x)) o.dst s K) : o.wp P a w (After w0 mu N K) Q := by
  obtain ⟨hx, hK⟩ := hK
  have hx' := h.ev x
  obtain ⟨b, hy⟩ : ∃ b, a.eval x = .map (some b) := by
    rcases hx with ⟨r, hx⟩ | ⟨fr, es, clock, hx⟩
    · rw [hx] at hx'
      simp only [SimV] at hx'
      obtain ⟨_, _, b, _, hy⟩ := hx'
      exact ⟨b, hy⟩
    · rw [hx] at hx'
      simp only [SimV] at hx'
      obtain ⟨b, hy, _⟩ := hx'
      exact ⟨b, hy⟩
  have hev : a.eval (.const (.map none)) = .map none := rfl
  have heq' : (Op.equal t (.map (some b)) (.map none)).run P w = .ok false w := run_equal_map_nil w t kt et (some b) ht
  have hg : (eqGuard op t x (.const (.map none)) (.map (some b)) (.map none)).run P w = .ok () w := by unfold eqGuard; split <;> simp
  have hb : (binOp op t (.map (some b)) (.map none)).run P w = .ok (.bool ne) w := by
    rcases hop with ⟨rfl, rfl⟩ | ⟨rfl, rfl⟩
    · show ((do pure (.bool (← Op.equal t (.map (some b)) (.map none))) : Sem Value)).run P w = _
      rw [Sem.run_bind, heq']
      simp
    · show ((do pure (.bool (!(← Op.equal t (.map (some b)) (.map none)))) : Sem Value)).run P w = _
      rw [Sem.run_bind, heq']
      simp
  refine wp_value (v := .bool ne) (w' := w) ?_ (After.put hf h hd sim_mk hK)
  simp only [execOp, ho, hy, hev, Sem.run_bind, hg, Result.andThen_ok, hb, Sem.run_pure]

theorem simL_vs {C : Ctx} : ∀ {vs ys : List Value}, SimL (vs.map AV.v) C ys → ys.length = vs.length → ys = vs
  | [], ys, _, hl => List.eq_nil_of_length_eq_zero (by simpa using hl)
  | v :: vs, [], h, _ => by simp [SimL] at h
  | v :: vs, y :: ys, h, hl => by
    simp only [List.map_cons, SimL, SimV] at h
    rw [h.1, simL_vs h.2 (by simpa using hl)]
theorem ok_xcall {f : FuncId} {args : Array Operand} {tys : Array TypeId} (ho : o.op = .call { callee := .value (.func f), args, argTypes := tys })
    (hf : a.defers = []) (h : Sim w0 mu N s a.tmps w phi ro) (hd : ∀ k, o.dst = some k → k < N) (hK : aexec P own (.xcall f (args.toList.map opd)) o.dst s K) : o.wp P a w (After w0 mu N K) Q := by
  obtain ⟨fn, e, vs, v, h1, h2, h3, h4, h5, h6, h7, hK⟩ := hK
  have hs := evs_sim h args.toList
  rw [List.map_map] at h6
  have hs' : SimL (vs.map AV.v) (ctx w0 w ro phi s) (args.toList.map a.eval) := by rw [← h6]; exact hs
  have hlen : vs.length = args.size := by
    have := congrArg List.length h6
    simpa using this.symm
  have hvs := simL_vs hs' (by simpa using hlen.symm)
  have hargs : args.map a.eval = vs.toArray := Array.ext' (by rw [Array.toList_map]; exact hvs)
  refine wp_value (v := v) (w' := w) ?_ (After.put hf h hd sim_mk hK)
  have hev : a.eval (.func f) = .func (.func f) #[] #[] := rfl
  simp [execOp, ho, resolve, hev, Deferred.ofValue, invoke, hargs, run_callFunc_extern h1 h2 h3 h4 h5, h7]

theorem ok_nchk {x : Operand} (ho : o.op = .nilCheck x)
    (hf : a.defers = []) (h : Sim w0 mu N s a.tmps w phi ro) (hd : ∀ k, o.dst = some k → k < N) (hK : aexec P own (.nchk (opd x)) o.dst s K) : o.wp P a w (After w0 mu N K) Q := by
  have hx := h.ev x
  rcases hK with ⟨r, off, he, hK⟩ | ⟨cs, he, hK⟩
  · rw [he] at hx
    have hx0 := hx
    simp only [SimV] at hx
    obtain ⟨_, _, b, _, hy, _⟩ := hx
    refine wp_value (v := a.eval x) (w' := w) ?_ (After.put hf h hd hx0 hK)
    simp [execOp, ho, hy]
  · rw [he] at hx
    have hx0 := hx
    simp only [SimV] at hx
    obtain ⟨b, o', cur, e', fz, hy, _⟩ := hx
    refine wp_value (v := a.eval x) (w' := w) ?_ (After.put hf h hd hx0 hK)
    simp [execOp, ho, hy]

theorem ok_nxs {x : Operand} (ho : o.op = .next x true)
    (hf : a.defers = []) (h : Sim w0 mu N s a.tmps w phi ro) (hd : ∀ k, o.dst = some k → k < N) (hK : aexec P own (.nxs (opd x)) o.dst s K) : o.wp P a w (After w0 mu N K) Q := by
  obtain ⟨r, b, p, hx, hr, hK1, hK2⟩ := hK
  have hx' := h.ev x
  rw [hx] at hx'
  simp only [SimV] at hx'
  obtain ⟨_, _, k, hk, hx'⟩ := hx'
  have hk : phi r = some k := hk
  have hb : w.heap[k]? = some (.stringIter b p) := by
    rcases h.liv r _ hr with ⟨_, h2, _⟩ | ⟨k', cur, e, _, _, _, _, h5⟩ | ⟨k', o', h0, h1, h2, _⟩
    · simp at h2
    · simp only [SimR, if_true] at h5
      cases hc : cur.toList with
      | nil => rw [hc] at h5; simp [SimL] at h5
      | cons y ys => rw [hc] at h5; simp [SimL, SimV] at h5
    · simp only [Prod.mk.injEq, List.cons.injEq, and_true, true_and, AV.ob.injEq] at h0
      rw [hk] at h1
      cases h1
      rw [h2, ← h0]
  have hks := lt_of_get hb
  by_cases hp : p < b.size
  · have hsim := h.writeOb (w' := { w with heap := w.heap.setIfInBounds k (.stringIter b (p + (Utf8.decode b p).2)) }) hr hk hb rfl (o' := .stringIter b (p + (Utf8.decode b p).2)) (by simp [hks]) rfl
      (fun j hj _ => by simp [Ne.symm hj]) rfl rfl rfl (by simp)
    refine wp_value (v := .tuple #[.bool true, .int .i64 (p : Nat), .int .i32 ((Utf8.decode b p).1 : Nat)]) ?_ (After.put hf hsim hd ?_ (hK2 hp))
    · simp [execOp, ho, Instr.next, hx', getObj, setObj, Sem.run, hb, hp, goInt]
    · simp [SimV, SimL]
  · refine wp_value (v := .tuple #[.bool false]) (w' := w) ?_ (After.put hf h hd ?_ (hK1 (by omega)))
    · simp [execOp, ho, Instr.next, hx', getObj, Sem.run, hb, hp]
    · simp [SimV, SimL]

/-- The first cells of a slice, in the model. -/
theorem elems_simk (h : Sim w0 mu N s a.tmps w phi ro) {z m : Nat} {x : AV} {ys : List AV} (he : Elems s.hp z x m ys) {y : Value} (hx : SimV x (ctx w0 w ro phi s) y) :
    ∃ yb yc news, y = .slice yb m yc ∧ news.length = m * z ∧ ys.length = m * z ∧ SimL ys (ctx w0 w ro phi s) news ∧ ∀ k : Nat, k ≤ m → (Builtin.firstCells z k y).run P w = .ok (news.take (k * z)).toArray w := by
  have block : ∀ (b o' cap : Nat) (cur : Array Value) (e : TypeId) (fz : Nat × Nat), w.heap[b]? = some (.cells cur e fz) → o' + m * z ≤ cur.size → y = .slice (some ⟨b, o', none⟩) m cap → ys.length = m * z →
      SimL ys (ctx w0 w ro phi s) ((cur.toList.drop o').take (m * z)) →
      ∃ yb yc news, y = .slice yb m yc ∧ news.length = m * z ∧ ys.length = m * z ∧ SimL ys (ctx w0 w ro phi s) news ∧ ∀ k : Nat, k ≤ m → (Builtin.firstCells z k y).run P w = .ok (news.take (k * z)).toArray w := by
    intro b o' cap cur e fz hb hle hy hys hs
    have hl : ((cur.toList.drop o').take (m * z)).length = m * z := by simp; omega
    refine ⟨_, cap, _, hy, hl, hys, hs, fun k hk => ?_⟩
    have hkm : k * z ≤ m * z := Nat.mul_le_mul_right _ hk
    rw [hy]
    refine run_firstCells_some (P := P) w z k _ m cap _ (by rw [List.length_take, hl]; omega) fun j v hj => ?_
    rw [addr_add, cell_of_row w b (o' + j) cur e fz hb]
    rw [List.getElem?_take] at hj
    split at hj
    · rw [List.getElem?_take] at hj
      split at hj
      · rw [List.getElem?_drop] at hj
        simpa using hj
      · cases hj
    · cases hj
  cases he with
  | ro fr cs n =>
    simp only [SimV] at hx
    rcases hx with ⟨rfl, rfl, ad, c, hy, _⟩ | ⟨b, o', cap, cur, e, fz, hy, hcell, hro, hlen, hnc, _, hs⟩
    · refine ⟨ad, c, [], hy, by simp, by simp, by simp [SimL], fun k hk => ?_⟩
      rw [hy]
      obtain rfl : k = 0 := by omega
      cases ad <;> simp [Builtin.firstCells, loadCells, loadCellsFrom]
    · have hle := hs.length_le
      have hcell' : w.heap[b]? = some (.cells cur e fz) := hcell
      simp only [List.length_drop, Array.length_toList] at hle
      by_cases hoc : o' ≤ cur.size
      · exact block b o' cap cur e fz hcell' (by omega) hy hlen (SimL.mono _ _ _ _ (out_le _) (hs.shorter _ (by omega)))
      · have hm : m * z = 0 := by omega
        have hcs : ys = [] := List.eq_nil_of_length_eq_zero (by omega)
        refine ⟨_, cap, [], hy, by simp [hm], hlen, by simp [hcs, SimL], fun k hk => ?_⟩
        have hkz : k * z = 0 := by have := Nat.mul_le_mul_right z hk; omega
        rw [hy]
        simp [Builtin.firstCells, hkz, loadCells, loadCellsFrom]
  | nil =>
    simp only [SimV] at hx
    refine ⟨none, 0, [], hx, by simp, by simp, by simp [SimL], fun k hk => ?_⟩
    rw [hx]
    simp [Builtin.firstCells]
  | sl r off n fl cs hr hl =>
    simp only [SimV] at hx
    obtain ⟨_, _, hx⟩ := hx
    rcases hx with ⟨hp, rfl, rfl, hy⟩ | ⟨b, o', cap, cur, e, hb, hy, hcell, hoff, hcap, hml, hroom⟩
    · refine ⟨none, 0, [], hy, by simp, by simp, by simp [SimL], fun k hk => ?_⟩
      rw [hy]
      simp [Builtin.firstCells]
    · obtain ⟨cur2, e2, hcell2, hsim, _⟩ := h.cell hr hb hcell
      have hcell' : w.heap[b]? = some (.cells cur e (0, 0)) := hcell
      rw [hcell'] at hcell2
      cases hcell2
      have hmz : m * z ≤ cap * z := Nat.mul_le_mul_right _ hcap
      by_cases hm : m * z = 0
      · refine ⟨_, cap, [], hy, by simp [hm], by simp [hm], by simp [hm, SimL], fun k hk => ?_⟩
        have hkz : k * z = 0 := by have := Nat.mul_le_mul_right z hk; omega
        rw [hy]
        simp [Builtin.firstCells, hkz, loadCells, loadCellsFrom]
      · have ho : o' = off := by
          rcases hoff with h1 | h1
          · exact h1
          · exact absurd (by rw [h1.1, Nat.zero_mul]) hm
        subst ho
        refine block b o' cap cur e (0, 0) hcell' (by omega) hy (by simp; omega) ?_
        exact ((hsim.list.drop o').take (m * z)).shorter _ (by simp; omega)


theorem wp_valuew {v : Value} {w' : World} {R : Act → World → Prop} (hr : (execOp a.eval o).run P w = .ok (.value v) w') (h : R (a.put o.dst v) w') : o.wp P a w R Q := wp_value hr h

theorem cellOk_take {fl : Bool} {l : List AV} (k : Nat) (h : l.all (cellOk fl) = true) : (l.take k).all (cellOk fl) = true :=
  List.all_eq_true.2 fun x hx => List.all_eq_true.1 h x (List.mem_of_mem_take hx)

theorem mem_same {s : AS} {r : Nat} {c : Bool × List AV} (hr : s.hp r = some c) : s.mem r c = s := by
  have : (fun q => if q = r then some c else s.hp q) = s.hp := by
    funext q
    by_cases hq : q = r
    · subst hq; simp only [if_true]; exact hr.symm
    · simp [hq]
  show AS.mk s.tm _ = s
  rw [this]

theorem ok_cpy {x y : Operand} {t e : TypeId} {i : TypeInfo} (ho : o.op = .call { callee := .builtin .copy, args := #[x, y], argTypes := #[t, t] }) (ht : P.underlying t = some (.slice e)) (hi : P.info? e = some i)
    (hf : a.defers = []) (h : Sim w0 mu N s a.tmps w phi ro) (hd : ∀ k, o.dst = some k → k < N) (hK : aexec P own (.cpy i.size (opd x) (opd y)) o.dst s K) : o.wp P a w (After w0 mu N K) Q := by
  obtain ⟨r, off, n, fl, cs, m, ys, he, hr, hle, hE, hyl, hok, hK⟩ := hK
  obtain ⟨yb, yc, news, hy, hl, _, hs, hrun⟩ := elems_simk (P := P) h hE (h.ev y)
  have hx := h.ev x
  rw [he] at hx
  simp only [SimV] at hx
  obtain ⟨_, _, hx⟩ := hx
  have hmin : min m n * i.size ≤ m * i.size := Nat.mul_le_mul_right _ (Nat.min_le_left _ _)
  have hmin2 : min m n * i.size ≤ n * i.size := Nat.mul_le_mul_right _ (Nat.min_le_right _ _)
  have hrun1 := hrun (min m n) (Nat.min_le_left _ _)
  rw [hy] at hrun1
  by_cases hn : n = 0
  · subst hn
    simp only [Nat.min_zero, Nat.zero_mul, List.take_zero, List.append_nil, Nat.add_zero, List.take_append_drop, mem_same hr] at hK hrun1
    refine wp_value (v := .int .i64 (0 : Nat)) (w' := w) ?_ (After.put hf h hd sim_mk hK)
    rcases hx with ⟨_, _, _, hxv⟩ | ⟨b, o', cap, cur, e', hb, hxv, _⟩
    · simp [execOp, ho, resolve, invoke, builtin, Builtin.copy_, run_underlying ht, hxv, hy, Builtin.lenOf, sizeOf, typeInfo, hi, goInt, hrun1]
    · simp [execOp, ho, resolve, invoke, builtin, Builtin.copy_, run_underlying ht, hxv, hy, Builtin.lenOf, sizeOf, typeInfo, hi, goInt, hrun1, storeCells]
  · rcases hx with ⟨_, _, h0, _⟩ | ⟨b, o', cap, cur, e', hb, hxv, hcell, hoff, hcap, hml, hroom⟩
    · exact absurd h0 hn
    · have hoff' : o' = off := by
        rcases hoff with h1 | h1
        · exact h1
        · exact absurd h1.1 hn
      subst hoff'
      obtain ⟨cur2, e2, hcell2, hsim, _⟩ := h.cell hr hb hcell
      have hcell' : w.heap[b]? = some (.cells cur e' (0, 0)) := hcell
      rw [hcell'] at hcell2
      cases hcell2
      have hlen := hsim.length_le
      simp only [Array.length_toList] at hlen
      have hnc : n * i.size ≤ cap * i.size := Nat.mul_le_mul_right _ hcap
      have h1 : ∀ v ∈ news.take (min m n * i.size), v.oneCell' = true := fun v hv => cellOk_oneL hok hs (by omega) v (List.mem_of_mem_take hv)
      have hk : (news.take (min m n * i.size)).length = min m n * i.size := by rw [List.length_take]; omega
      have hst := run_storeCells_at P b o' e' (news.take (min m n * i.size)) 0 cur w hcell' (by rw [hk]; omega) h1
      simp only [Nat.add_zero] at hst
      rw [hk] at hst
      refine wp_value (v := .int .i64 (min m n : Nat)) (w' := w.setRow b (cur.toList.take o' ++ news.take (min m n * i.size) ++ cur.toList.drop (o' + min m n * i.size)).toArray) ?_ (After.put hf (h.write hr hb hcell' (setRow_heap w b cur _ e' _ hcell') ?_ (fun k hk _ => setRow_other w b k _ hk) rfl rfl rfl (by simp) ?_) hd sim_mk hK)
      · simp [execOp, ho, resolve, invoke, builtin, Builtin.copy_, run_underlying ht, hxv, hy, Builtin.lenOf, sizeOf, typeInfo, hi, goInt, hrun1, hst]
      · simp only [List.size_toArray, List.length_append, List.length_take, List.length_drop, Array.length_toList]
        omega
      · have hs' := (cellOk_simL hok hs).take (min m n * i.size) |>.shorter (min m n * i.size) (by simp; omega)
        have ht := (SimL.take o' hsim).shorter o' (by simp; omega)
        have hd2 := hsim.drop (o' + min m n * i.size)
        exact (ht.append (by simp; omega) hs').append (by simp; omega) hd2

theorem anInt_sim {x : AV} {p : IntKind × Int} {C : Ctx} {v : Value} (h : anInt x = some p) (hs : SimV x C v) : v = .int p.1 p.2 := by
  unfold anInt at h
  split at h
  · cases h; simpa only [SimV] using hs
  · cases h

theorem run_eq_int {t : TypeId} {k0 : IntKind} (ht : P.underlying t = some (.int k0)) (d : Nat) (k : IntKind) (p q : Int) (w : World) : (Op.equalIn (d + 1) t (.int k p) (.int k q)).run P w = .ok (p == q) w := by
  simp [Op.equalIn, run_underlying ht]

theorem intFields_run {xs ys : Array Value} {C : Ctx} {l m : List AV} (hx : SimL l C xs.toList) (hy : SimL m C ys.toList) (d : Nat) (w : World) : ∀ (fs : List Field) (offs : List Nat) (e : Bool), intFields P fs = some offs → intsEq l m offs = some e →
    (forIn (m := Sem) fs ((none, ()) : Option Bool × Unit) fun f _ =>
      if f.name = "_" then pure (ForInStep.yield (none, ()))
      else do
        let p ← part f.type xs f.offset
        let q ← part f.type ys f.offset
        let b ← Op.equalIn (d + 1) f.type p q
        if b = false then pure (ForInStep.done (some false, ())) else pure (ForInStep.yield (none, ()))).run P w = .ok (if e then (none, ()) else (some false, ())) w
  | [], offs, e, h1, h2 => by
    simp [intFields] at h1
    subst h1
    simp [intsEq] at h2
    subst h2
    simp
  | f :: fs, offs, e, h1, h2 => by
    unfold intFields at h1
    split at h1
    · rename_i k hk
      split at h1
      · cases h1
      · rename_i hn
        rw [Option.map_eq_some_iff] at h1
        obtain ⟨offs', h3, rfl⟩ := h1
        simp only [intsEq, Option.bind_eq_some_iff] at h2
        obtain ⟨u, hu, v, hv, p, hp, q, hq, h2⟩ := h2
        split at h2
        · rename_i hkk
          rw [Option.map_eq_some_iff] at h2
          obtain ⟨e', h4, rfl⟩ := h2
          have ih := intFields_run hx hy d w fs offs' e' h3 h4
          obtain ⟨yu, gu, su⟩ := hx.get hu
          obtain ⟨yv, gv, sv⟩ := hy.get hv
          have hu' := anInt_sim hp su
          have hv' := anInt_sim hq sv
          subst hu'; subst hv'
          have sh : shapeT P f.type = some none := by
            unfold shapeT
            cases hinf : P.info? f.type with
            | none => simp [Program.underlying, hinf] at hk
            | some inf => simp [hk]
          have e1 := run_part_one (P := P) (w := w) sh (cs := xs) (off := f.offset) (by simpa using gu)
          have e2 := run_part_one (P := P) (w := w) sh (cs := ys) (off := f.offset) (by simpa using gv)
          have e3 := run_eq_int (P := P) hk d p.1 p.2 q.2 w
          rw [hkk] at e1 e3
          rw [List.forIn_cons]
          simp only [hn, if_false, Sem.run_bind, e1, e2, Result.andThen_ok, e3]
          by_cases hpq : p.2 = q.2
          · simp [hpq]
            simpa using ih
          · simp [hpq]
        · cases h2
    · cases h1

theorem ok_aeq {op : BinOp} {ne : Bool} {t u : TypeId} {x y : Operand} {fs : Array Field} {offs : List Nat} (ho : o.op = .binOp op t x y u) (hop : op = if ne then .neq else .eql) (ht : P.underlying t = some (.struct fs))
    (hst : P.stoodInHeld t = false) (hg : P.eqGuardType P.depth t = false) (hoffs : intFields P fs.toList = some offs)
    (hf : a.defers = []) (h : Sim w0 mu N s a.tmps w phi ro) (hd : ∀ k, o.dst = some k → k < N) (hK : aexec P own (.pu (.aeq ne offs) [opd x, opd y]) o.dst s K) : o.wp P a w (After w0 mu N K) Q := by
  refine ok_pu (fun r hr => ?_) hf h hd hK
  have hx := h.ev x
  have hy := h.ev y
  obtain ⟨l, m, e, he, hi, rfl⟩ := hr
  rw [(list2 he).1] at hx
  rw [(list2 he).2] at hy
  obtain ⟨xs, hxv, _, hxs⟩ := sim_agg hx
  obtain ⟨ys, hyv, _, hys⟩ := sim_agg hy
  have heq : (Op.equal t (.agg xs) (.agg ys)).run P w = .ok e w := by
    unfold Op.equal Op.maxDepth
    unfold Op.equalIn
    simp [run_underlying ht, hst]
    rw [← Array.forIn_toList, intFields_run hxs hys 9998 w fs.toList offs e hoffs hi]
    cases e <;> simp
  have hgd : (eqGuard op t x y (.agg xs) (.agg ys)).run P w = .ok () w := by
    unfold eqGuard
    split <;> simp [hg]
  refine ⟨_, ?_, sim_mk⟩
  cases ne
  · simp only [Bool.false_eq_true, if_false] at hop
    subst hop
    simp [execOp, ho, hxv, hyv, hgd, binOp, heq]
  · simp only [if_true] at hop
    subst hop
    simp [execOp, ho, hxv, hyv, hgd, binOp, heq]
end Go.Am
