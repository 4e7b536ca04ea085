/- The abstract machine, contracts: part 2 of what this claim needs. -/
import Derived.Test.YtmifianbkpiifaaDoorZs1
set_option linter.unusedSectionVars false
namespace Go.Am
variable [Go.Am.CodeBlk]
variable {P : Program} {w0 w : World} {mu : Nat → Option Nat} {N : Nat} {s : AS} {o : Oper} {a : Act} {phi : Nat → Option Nat} {ro : Nat → Prop} {K : AS → Prop} {Q : Exit → Act → World → Prop} {own : Bool}
theorem ok_pu {g : PG} {args : List Opd} (hrun : ∀ r, g.res (args.map s.ev) r → ∃ v, (execOp a.eval o).run P w = .ok (.value v) w ∧ SimV r (ctx w0 w ro phi s) v)
    (hf : a.defers = []) (h : Sim w0 mu N s a.tmps w phi ro) (hd : ∀ k, o.dst = some k → k < N) (hK : aexec P own (.pu g args) o.dst s K) : o.wp P a w (After w0 mu N K) Q := by
  obtain ⟨r, hr, hK⟩ := hK
  obtain ⟨v, h1, h2⟩ := hrun r hr
  exact wp_value h1 (After.put hf h hd h2 hK)
theorem sim_agg {l : List AV} {C : Ctx} {v : Value} (h : SimV (.agg l) C v) : ∃ ar : Array Value, v = .agg ar ∧ ar.size = l.length ∧ SimL l C ar.toList := by simpa only [SimV] using h
theorem sim_v {x : Value} {C : Ctx} {v : Value} (h : SimV (.v x) C v) : v = x := by simpa only [SimV] using h
theorem sim_mk {x : Value} {C : Ctx} : SimV (.v x) C x := by simp only [SimV]
theorem run_part_one {t : TypeId} (hk : shapeT P t = some none) {cs : Array Value} {off : Nat} {v : Value} (hv : cs[off]? = some v) : (part t cs off).run P w = .ok v w := by
  obtain ⟨d, ht, hd1, hd2⟩ := shapeT_none hk
  have hag : (isAgg t).run P w = .ok false w := by
    unfold isAgg
    rw [Sem.run_bind, run_underlying ht]
    cases d <;> simp at hd1 hd2 ⊢
  simp [part, hag, hv]
theorem run_part_some {t : TypeId} {k : Nat} (hk : shapeT P t = some (some k)) (cs : Array Value) (off : Nat) : (part t cs off).run P w = .ok (.agg (cs.extract off (off + k))) w := by
  obtain ⟨d, i, ht, hi, rfl, hdd⟩ := shapeT_some hk
  have hag : (isAgg t).run P w = .ok true w := by
    unfold isAgg
    rw [Sem.run_bind, run_underlying ht]
    rcases hdd with ⟨fs, rfl⟩ | ⟨n, el, rfl⟩ <;> simp
  simp [part, hag, sizeOf, typeInfo, hi]
theorem sim_extract {l : List AV} {C : Ctx} {ar : Array Value} (hsz : ar.size = l.length) (hs : SimL l C ar.toList) {off k : Nat} (hle : off + k ≤ l.length) :
    SimV (.agg ((l.drop off).take k)) C (.agg (ar.extract off (off + k))) := by
  simp only [SimV]
  refine ⟨_, rfl, by simp; omega, ?_⟩
  have : (ar.extract off (off + k)).toList = (ar.toList.drop off).take k := by simp [Array.toList_extract, List.extract_eq_take_drop]
  rw [this]
  exact (hs.drop off).take k |>.shorter _ (by simp; omega)
theorem list1 {α β : Type} {f : α → β} {x : α} {y : β} (h : [x].map f = [y]) : f x = y := by simpa using h
theorem list2 {α β : Type} {f : α → β} {x x' : α} {y y' : β} (h : [x, x'].map f = [y, y']) : f x = y ∧ f x' = y' := by simpa using h
theorem ok_fld {t : TypeId} {x : Operand} {f : Nat} {fields : Array Field} {fd : Field} {k : Option Nat} (ho : o.op = .field t x f) (ht : P.underlying t = some (.struct fields)) (hfd : fields[f]? = some fd) (hk : shapeT P fd.type = some k)
    (hf : a.defers = []) (h : Sim w0 mu N s a.tmps w phi ro) (hd : ∀ k, o.dst = some k → k < N) (hK : aexec P own (.pu (.fld fd.offset k) [opd x]) o.dst s K) : o.wp P a w (After w0 mu N K) Q := by
  refine ok_pu (fun r hr => ?_) hf h hd hK
  have hx := h.ev x
  cases k with
  | none =>
    obtain ⟨l, he, hr⟩ := hr
    rw [list1 he] at hx
    obtain ⟨ar, hv, hsz, hs⟩ := sim_agg hx
    obtain ⟨y, hy, hsy⟩ := hs.get hr
    refine ⟨y, ?_, hsy⟩
    have hp := run_part_one (P := P) (w := w) hk (cs := ar) (off := fd.offset) (v := y) (by simpa using hy)
    simp [execOp, ho, Instr.field, run_underlying ht, hfd, hv, asAgg, hp]
  | some k =>
    obtain ⟨l, he, hle, rfl⟩ := hr
    rw [list1 he] at hx
    obtain ⟨ar, hv, hsz, hs⟩ := sim_agg hx
    refine ⟨.agg (ar.extract fd.offset (fd.offset + k)), ?_, sim_extract hsz hs hle⟩
    have hp := run_part_some (P := P) (w := w) hk ar fd.offset
    simp [execOp, ho, Instr.field, run_underlying ht, hfd, hv, asAgg, hp]
theorem ok_aix {t e : TypeId} {n : Nat} {x i : Operand} {inf : TypeInfo} {k : Option Nat} (ho : o.op = .index t x i) (ht : P.underlying t = some (.array n e)) (hi : P.info? e = some inf) (hk : shapeT P e = some k)
    (hf : a.defers = []) (h : Sim w0 mu N s a.tmps w phi ro) (hd : ∀ k, o.dst = some k → k < N) (hK : aexec P own (.pu (.aix n inf.size k) [opd x, opd i]) o.dst s K) : o.wp P a w (After w0 mu N K) Q := by
  refine ok_pu (fun r hr => ?_) hf h hd hK
  have hx := h.ev x
  have hj := h.ev i
  cases k with
  | none =>
    obtain ⟨l, kk, j, he, h0, h1, hr⟩ := hr
    rw [(list2 he).1] at hx
    rw [(list2 he).2] at hj
    obtain ⟨ar, hv, hsz, hs⟩ := sim_agg hx
    have hj' := sim_v hj
    obtain ⟨y, hy, hsy⟩ := hs.get hr
    refine ⟨y, ?_, hsy⟩
    have hp := run_part_one (P := P) (w := w) hk (cs := ar) (off := j.toNat * inf.size) (v := y) (by simpa using hy)
    simp [execOp, ho, Instr.index, run_underlying ht, hv, hj', asIntOf, h0, h1, sizeOf, typeInfo, hi, hp]
  | some k =>
    obtain ⟨l, kk, j, he, h0, h1, hle, rfl⟩ := hr
    rw [(list2 he).1] at hx
    rw [(list2 he).2] at hj
    obtain ⟨ar, hv, hsz, hs⟩ := sim_agg hx
    have hj' := sim_v hj
    refine ⟨_, ?_, sim_extract hsz hs hle⟩
    have hp := run_part_some (P := P) (w := w) hk ar (j.toNat * inf.size)
    simp [execOp, ho, Instr.index, run_underlying ht, hv, hj', asIntOf, h0, h1, sizeOf, typeInfo, hi, hp]
theorem ok_six {t : TypeId} {x i : Operand} (ho : o.op = .index t x i) (ht : P.underlying t = some .string)
    (hf : a.defers = []) (h : Sim w0 mu N s a.tmps w phi ro) (hd : ∀ k, o.dst = some k → k < N) (hK : aexec P own (.pu .six [opd x, opd i]) o.dst s K) : o.wp P a w (After w0 mu N K) Q := by
  refine ok_pu (fun r hr => ?_) hf h hd hK
  have hx := h.ev x
  have hj := h.ev i
  obtain ⟨b, k, j, he, h0, h1, rfl⟩ := hr
  rw [(list2 he).1] at hx
  rw [(list2 he).2] at hj
  have hx' := sim_v hx
  have hj' := sim_v hj
  refine ⟨_, ?_, sim_mk⟩
  simp [execOp, ho, Instr.index, run_underlying ht, hx', hj', asIntOf, h0, h1]
theorem ok_scut {t : TypeId} {x : Operand} {lo hi : Option Operand} (ho : o.op = .slice t x lo hi none) (ht : P.underlying t = some .string)
    (hf : a.defers = []) (h : Sim w0 mu N s a.tmps w phi ro) (hd : ∀ k, o.dst = some k → k < N) (hK : aexec P own (.pu (.scut lo.isSome hi.isSome) (opd x :: (lo.toList.map opd ++ hi.toList.map opd))) o.dst s K) : o.wp P a w (After w0 mu N K) Q := by
  refine ok_pu (fun r hr => ?_) hf h hd hK
  have hx := h.ev x
  obtain ⟨b, l, hh, al, ah, he, h1, h2, hl, hr', rfl⟩ := hr
  refine ⟨_, ?_, sim_mk⟩
  have bl : (Instr.sliceBounds false b.size b.size (lo.map a.eval) (hi.map a.eval) none).run P w = .ok (l, hh, b.size) w ∧ a.eval x = .string b := by
    cases lo with
    | none =>
      obtain ⟨rfl, rfl⟩ : al = [] ∧ l = 0 := by simpa using hl
      cases hi with
      | none =>
        obtain ⟨rfl, rfl⟩ : ah = [] ∧ hh = b.size := by simpa using hr'
        have e1 : s.ev (opd x) = .v (.string b) := by simpa using he
        rw [e1] at hx
        exact ⟨by simp [Instr.sliceBounds], sim_v hx⟩
      | some y =>
        obtain ⟨k, rfl⟩ : ∃ k, ah = [.v (.int k hh)] := by simpa using hr'
        obtain ⟨e1, e2⟩ : s.ev (opd x) = .v (.string b) ∧ s.ev (opd y) = .v (.int k hh) := by simpa using he
        rw [e1] at hx
        have hy := h.ev y
        rw [e2] at hy
        have hy' := sim_v hy
        exact ⟨by simp [Instr.sliceBounds, hy', run_sliceBound (P := P) w k hh b.size _ (by omega) (by omega)], sim_v hx⟩
    | some z =>
      obtain ⟨kl, rfl⟩ : ∃ k, al = [.v (.int k l)] := by simpa using hl
      cases hi with
      | none =>
        obtain ⟨rfl, rfl⟩ : ah = [] ∧ hh = b.size := by simpa using hr'
        obtain ⟨e1, e2⟩ : s.ev (opd x) = .v (.string b) ∧ s.ev (opd z) = .v (.int kl l) := by simpa using he
        rw [e1] at hx
        have hz := h.ev z
        rw [e2] at hz
        have hz' := sim_v hz
        exact ⟨by simp [Instr.sliceBounds, hz', run_sliceBound (P := P) w kl l b.size _ (by omega) (by omega)], sim_v hx⟩
      | some y =>
        obtain ⟨k, rfl⟩ : ∃ k, ah = [.v (.int k hh)] := by simpa using hr'
        obtain ⟨e1, e2, e3⟩ : s.ev (opd x) = .v (.string b) ∧ s.ev (opd z) = .v (.int kl l) ∧ s.ev (opd y) = .v (.int k hh) := by simpa using he
        rw [e1] at hx
        have hz := h.ev z
        rw [e2] at hz
        have hz' := sim_v hz
        have hy := h.ev y
        rw [e3] at hy
        have hy' := sim_v hy
        exact ⟨by simp [Instr.sliceBounds, hy', hz', run_sliceBound (P := P) w k hh b.size _ (by omega) (by omega), run_sliceBound (P := P) w kl l hh _ (by omega) (by omega)], sim_v hx⟩
  simp [execOp, ho, Instr.sliceAt, Instr.slice, run_underlying ht, bl.1, bl.2]
theorem ok_cvt {u t : TypeId} {k k0 : IntKind} {x : Operand} (ho : o.op = .convert u t x) (hu : P.underlying u = some (.int k0)) (ht : P.underlying t = some (.int k))
    (hf : a.defers = []) (h : Sim w0 mu N s a.tmps w phi ro) (hd : ∀ k, o.dst = some k → k < N) (hK : aexec P own (.pu (.cvt k) [opd x]) o.dst s K) : o.wp P a w (After w0 mu N K) Q := by
  refine ok_pu (fun r hr => ?_) hf h hd hK
  have hx := h.ev x
  obtain ⟨k', n, he, rfl⟩ := hr
  rw [list1 he] at hx
  have hx' := sim_v hx
  refine ⟨_, ?_, sim_mk⟩
  simp [execOp, ho, convert, run_underlying hu, run_underlying ht, hx', Conv.intToInt]
theorem ok_mm {mx : Bool} {x y : Operand} {tys : Array TypeId} (ho : o.op = .call { callee := .builtin (if mx then .max else .min), args := #[x, y], argTypes := tys })
    (hf : a.defers = []) (h : Sim w0 mu N s a.tmps w phi ro) (hd : ∀ k, o.dst = some k → k < N) (hK : aexec P own (.pu (.mm mx) [opd x, opd y]) o.dst s K) : o.wp P a w (After w0 mu N K) Q := by
  refine ok_pu (fun r hr => ?_) hf h hd hK
  have hx := h.ev x
  have hy := h.ev y
  obtain ⟨k, p, k', q, he, rfl⟩ := hr
  rw [(list2 he).1] at hx
  rw [(list2 he).2] at hy
  have hx' := sim_v hx
  have hy' := sim_v hy
  refine ⟨_, ?_, sim_mk⟩
  cases mx
  · simp [execOp, ho, resolve, hx', hy', invoke, builtin, Builtin.min_, Builtin.min2]
  · simp [execOp, ho, resolve, hx', hy', invoke, builtin, Builtin.max_, Builtin.max2]
def isNilV : Value → Bool
  | .nilIface => true
  | _ => false
theorem run_equal_inil {t : TypeId} {ms : Array (String × TypeId)} (ht : P.underlying t = some (.interface ms)) (y : Value) (hy : y = .nilIface ∨ ∃ t p, y = .iface t p) (w : World) : (Op.equal t y .nilIface).run P w = .ok (isNilV y) w := by
  show (Op.equalIn (9999 + 1) t y .nilIface).run P w = _
  rw [Op.equalIn]
  rcases hy with rfl | ⟨t', p, rfl⟩ <;> simp [run_underlying ht, isNilV]
/-- Is an interface nil? -/
theorem run_cut4 {t e : TypeId} {i : TypeInfo} (ht : P.underlying t = some (.slice e)) (hi : P.info? e = some i) (ba : Option Addr) (n cap l m : Nat) (k k' k'' : IntKind) (h1 : l ≤ m) (h2 : m ≤ cap) :
    (Instr.sliceAt t (.slice ba n cap) (some (.int k (l : Nat))) (some (.int k' (m : Nat))) (some (.int k'' (m : Nat)))).run P w = .ok (.slice (if m = l then ba else ba.map (·.add (l * i.size))) (m - l) (m - l)) w := by
  have hsb : ∀ (k : IntKind) (x y : Nat) (code : BoundsCode), x ≤ y → (Instr.sliceBound (.int k x) y code).run P w = .ok x w := by
    intro k x y code hxy
    rw [run_sliceBound (P := P) w k x y code (by omega) (by omega)]
    simp
  have hb : (Instr.sliceBounds true n cap (some (.int k (l : Nat))) (some (.int k' (m : Nat))) (some (.int k'' (m : Nat)))).run P w = .ok (l, m, m) w := by
    unfold Instr.sliceBounds
    simp [hsb k'' m cap _ h2, hsb k' m m _ (Nat.le_refl _), hsb k l m _ h1]
  simp [Instr.sliceAt, run_underlying ht, Instr.slice, hb, sizeOf, typeInfo, hi]
/-- A slice expression with three indexes, of an exact slice. -/
theorem ok_cut4 {t e : TypeId} {x lo hi' mx : Operand} {i : TypeInfo} (ho : o.op = .slice t x (some lo) (some hi') (some mx)) (ht : P.underlying t = some (.slice e)) (hi : P.info? e = some i)
    (hf : a.defers = []) (h : Sim w0 mu N s a.tmps w phi ro) (hd : ∀ k, o.dst = some k → k < N)
    (hK : aexec P own (.pu (.cut4 i.size) [opd x, opd lo, opd hi', opd mx]) o.dst s K) : o.wp P a w (After w0 mu N K) Q := by
  refine ok_pu (fun r hr => ?_) hf h hd hK
  obtain ⟨ba, n, c, l, m, k, k', k'', he, h1, h2, rfl⟩ := hr
  simp only [List.map_cons, List.map_nil, List.cons.injEq, and_true] at he
  obtain ⟨g1, g2, g3, g4⟩ := he
  have q1 := h.ev x
  have q2 := h.ev lo
  have q3 := h.ev hi'
  have q4 := h.ev mx
  rw [g1] at q1
  rw [g2] at q2
  rw [g3] at q3
  rw [g4] at q4
  simp only [SimV] at q1 q2 q3 q4
  exact ⟨_, by simp [execOp, ho, q1, q2, q3, q4, run_cut4 ht hi ba n c l m k k' k'' h1 h2], sim_mk⟩
theorem ok_cpl {t : TypeId} {x : Operand} (ho : o.op = .unOp .xor t x)
    (hf : a.defers = []) (h : Sim w0 mu N s a.tmps w phi ro) (hd : ∀ k, o.dst = some k → k < N) (hK : aexec P own (.pu .cpl [opd x]) o.dst s K) : o.wp P a w (After w0 mu N K) Q := by
  refine ok_pu (fun r hr => ?_) hf h hd hK
  have hx := h.ev x
  obtain ⟨k, n, he, rfl⟩ := hr
  rw [list1 he] at hx
  have hx' := sim_v hx
  refine ⟨_, ?_, by simp only [SimV]; rfl⟩
  simp [execOp, ho, hx', Op.unary, Op.intBits]
theorem ok_inil {op : BinOp} {ne : Bool} {t u : TypeId} {ms : Array (String × TypeId)} {x : Operand} (ho : o.op = .binOp op t x (.const .nilIface) u) (hop : op = if ne then .neq else .eql) (ht : P.underlying t = some (.interface ms))
    (hf : a.defers = []) (h : Sim w0 mu N s a.tmps w phi ro) (hd : ∀ k, o.dst = some k → k < N) (hK : aexec P own (.pu (.inil ne) [opd x]) o.dst s K) : o.wp P a w (After w0 mu N K) Q := by
  refine ok_pu (fun r hr => ?_) hf h hd hK
  have hx := h.ev x
  obtain ⟨y, he, hc⟩ := hr
  rw [list1 he] at hx
  have hx' := sim_v hx
  have hyy : y = .nilIface ∨ ∃ t p, y = .iface t p := hc.imp (fun h => h.1) (fun h => h.1)
  have hg : (eqGuard op t x (.const .nilIface) y .nilIface).run P w = .ok () w := by
    unfold eqGuard
    rcases hyy with rfl | ⟨t', p, rfl⟩ <;> split <;> simp
  have hb : (binOp op t y .nilIface).run P w = .ok (.bool (ne ^^ (isNilV y))) w := by
    cases ne
    · simp only [Bool.false_eq_true, if_false] at hop
      subst hop
      rcases hyy with rfl | ⟨t', p, rfl⟩
      · show ((do pure (.bool (← Op.equal t .nilIface .nilIface)) : Sem Value)).run P w = _
        rw [Sem.run_bind, run_equal_inil ht _ (.inl rfl)]
        simp [isNilV]
      · show ((do pure (.bool (← Op.equal t (.iface t' p) .nilIface)) : Sem Value)).run P w = _
        rw [Sem.run_bind, run_equal_inil ht _ (.inr ⟨_, _, rfl⟩)]
        simp [isNilV]
    · simp only [if_true] at hop
      subst hop
      rcases hyy with rfl | ⟨t', p, rfl⟩
      · show ((do pure (.bool (!(← Op.equal t .nilIface .nilIface))) : Sem Value)).run P w = _
        rw [Sem.run_bind, run_equal_inil ht _ (.inl rfl)]
        simp [isNilV]
      · show ((do pure (.bool (!(← Op.equal t (.iface t' p) .nilIface))) : Sem Value)).run P w = _
        rw [Sem.run_bind, run_equal_inil ht _ (.inr ⟨_, _, rfl⟩)]
        simp [isNilV]
  have he2 : a.eval (.const .nilIface) = .nilIface := rfl
  refine ⟨.bool (ne ^^ (isNilV y)), ?_, ?_⟩
  · simp only [execOp, ho, hx', he2, Sem.run_bind, hg, Result.andThen_ok, hb, Sem.run_pure]
  · rcases hc with ⟨rfl, rfl⟩ | ⟨⟨t', p, rfl⟩, rfl⟩ <;> simp [SimV, isNilV]
/-- What a struct or an array is built of. -/
theorem pfill_sim {C : Ctx} (h : ∀ x : Operand, SimV (s.ev (opd x)) C (a.eval x)) (place : Nat → Option (Nat × Nat)) : ∀ (parts : List (Nat × Operand)) (pl : List (Nat × Nat)) (cs out : List AV) (cells : Array Value),
    parts.map (fun p => place p.1) = pl.map some → pfill cs pl (parts.map fun p => s.ev (opd p.2)) out → SimL cs C cells.toList → cells.size = cs.length →
      ∃ cells', Instr.fill place cells (parts.map fun p => (p.1, a.eval p.2)) = some cells' ∧ SimL out C cells'.toList ∧ cells'.size = out.length
  | [], [], cs, out, cells, _, hfill, hs, hsz => by
    simp only [List.map_nil, pfill] at hfill
    subst hfill
    exact ⟨cells, by simp [Instr.fill], hs, hsz⟩
  | [], _ :: _, _, _, _, hp, _, _, _ => by simp at hp
  | _ :: _, [], _, _, _, hp, _, _, _ => by simp at hp
  | (i, x) :: parts, (off, size) :: pl, cs, out, cells, hp, hfill, hs, hsz => by
    simp only [List.map_cons, pfill] at hfill
    simp only [List.map_cons, List.cons.injEq] at hp
    obtain ⟨hpi, hp⟩ := hp
    have hx := h x
    have step : ∀ (cs' : List AV), pfill cs' pl (parts.map fun p => s.ev (opd p.2)) out → (a.eval x).cells.size = size → off + size ≤ cells.size →
        SimL cs' C (cells.toList.take off ++ (a.eval x).cells.toList ++ cells.toList.drop (off + size)) → cs'.length = cells.size →
        ∃ cells', Instr.fill place cells (((i, x) :: parts).map fun p => (p.1, a.eval p.2)) = some cells' ∧ SimL out C cells'.toList ∧ cells'.size = out.length := by
      intro cs' hf' hz hle hs' hl'
      have h1 := fill_one off (a.eval x) cells (by omega)
      rw [hz] at h1
      have hs'' : SimL cs' C ((a.eval x).cells.zipIdx.foldl (fun (cs : Array Value) (p : Value × Nat) => cs.setIfInBounds (off + p.2) p.1) cells).toList := by rw [h1]; exact hs'
      have hsz' : ((a.eval x).cells.zipIdx.foldl (fun (cs : Array Value) (p : Value × Nat) => cs.setIfInBounds (off + p.2) p.1) cells).size = cs'.length := by
        rw [← Array.length_toList, h1]; simp; omega
      obtain ⟨cells', g1, g2⟩ := pfill_sim h place parts pl cs' out _ hp hf' hs'' hsz'
      refine ⟨cells', ?_, g2⟩
      simp only [List.map_cons, Instr.fill, hpi]
      rw [if_neg (by simp [hz]; omega)]
      exact g1
    rcases hfill with ⟨hz, hi, hok, hf'⟩ | ⟨l, hl, hll, hle, hf'⟩
    · have h1 := cellOk_one hok hx
      have hcells : (a.eval x).cells = #[a.eval x] := by
        generalize a.eval x = v at h1
        cases v <;> first | rfl | (simp [Value.oneCell'] at h1)
      refine step _ hf' (by rw [hcells, hz]; rfl) (by rw [hz]; omega) ?_ (by simp [hsz])
      have hset : cells.toList.take off ++ (a.eval x).cells.toList ++ cells.toList.drop (off + size) = cells.toList.set off (a.eval x) := by
        rw [List.set_eq_take_append_cons_drop, if_pos (by simp; omega), hcells, hz]
        simp
      rw [hset]
      exact SimL.set hs hx hi
    · rw [hl] at hx
      simp only [SimV] at hx
      obtain ⟨ar, hv, hsz2, hs2⟩ := hx
      refine step _ hf' (by rw [hv]; simp [Value.cells, hsz2, hll]) (by omega) ?_ (by simp; omega)
      have ht : SimL (cs.take off) C (cells.toList.take off) := (SimL.take off hs).shorter _ (by simp; omega)
      have := (ht.append (by simp; omega) hs2).append (by simp; omega) (hs.drop (off + size))
      rw [hv]
      exact this
theorem ok_bld_of {t : TypeId} {parts : Array (Nat × Operand)} {z : Value} {pl : List (Nat × Nat)} (ho : o.op = .build t parts)
    (place : Nat → Option (Nat × Nat)) (hrun : ∀ vs cells, Instr.fill place z.cells vs.toList = some cells → (Instr.build t vs).run P w = .ok (.agg cells) w) (hpl : parts.toList.map (fun p => place p.1) = pl.map some)
    (hf : a.defers = []) (h : Sim w0 mu N s a.tmps w phi ro) (hd : ∀ k, o.dst = some k → k < N) (hK : aexec P own (.pu (.bld z.cells.toList pl) (parts.toList.map fun p => opd p.2)) o.dst s K) : o.wp P a w (After w0 mu N K) Q := by
  refine ok_pu (fun r hr => ?_) hf h hd hK
  obtain ⟨out, hfill, rfl⟩ := hr
  rw [List.map_map] at hfill
  obtain ⟨cells', g1, g2, g3⟩ := pfill_sim (C := ctx w0 w ro phi s) (a := a) (fun x => h.ev x) place parts.toList pl _ out z.cells hpl hfill (simL_v _) (by simp)
  refine ⟨.agg cells', ?_, by simp only [SimV]; exact ⟨_, rfl, g3, g2⟩⟩
  have := hrun (parts.map fun p => (p.1, a.eval p.2)) cells' (by simpa using g1)
  simp [execOp, ho, this]
theorem mapM_some_map {α β : Type} {f : α → Option β} : ∀ {l : List α} {out : List β}, l.mapM f = some out → l.map f = out.map some
  | [], out, h => by simp at h; subst h; rfl
  | x :: l, out, h => by
    rw [List.mapM_cons] at h
    simp only [Option.bind_eq_bind, Option.bind_eq_some_iff, Option.pure_def, Option.some.injEq] at h
    obtain ⟨y, h1, out', h2, rfl⟩ := h
    simp [h1, mapM_some_map h2]
theorem run_places (w : World) : ∀ (l : List Field), (∀ f ∈ l, (P.info? f.type).isSome = true) → (l.mapM (m := Sem) fun f => do pure (f.offset, ← sizeOf f.type)).run P w = .ok (l.map fun f => (f.offset, ((P.info? f.type).map (·.size)).getD 0)) w
  | [], _ => by simp
  | f :: l, h => by
    obtain ⟨inf, hi⟩ := Option.isSome_iff_exists.1 (h f (List.mem_cons_self ..))
    have h1 : (sizeOf f.type).run P w = .ok inf.size w := by simp [sizeOf, typeInfo, hi]
    rw [List.mapM_cons]
    simp only [Sem.run_bind, h1, Result.andThen_ok, Sem.run_pure, run_places w l fun g hg => h g (List.mem_cons_of_mem _ hg), List.map_cons, hi, Option.map_some, Option.getD_some]
theorem ok_bld_struct {t : TypeId} {parts : Array (Nat × Operand)} {i : TypeInfo} {z : Value} {fields : Array Field} {pl : List (Nat × Nat)} (ho : o.op = .build t parts) (ht : P.underlying t = some (.struct fields)) (hi : P.info? t = some i) (hz : i.zero = some z)
    (hall : ∀ f ∈ fields.toList, (P.info? f.type).isSome = true) (hpl : (parts.toList.mapM fun p => (fields[p.1]?).bind fun f => (P.info? f.type).map fun inf => (f.offset, inf.size)) = some pl)
    (hf : a.defers = []) (h : Sim w0 mu N s a.tmps w phi ro) (hd : ∀ k, o.dst = some k → k < N) (hK : aexec P own (.pu (.bld z.cells.toList pl) (parts.toList.map fun p => opd p.2)) o.dst s K) : o.wp P a w (After w0 mu N K) Q := by
  have hrp := run_places (P := P) w fields.toList hall
  have hplaces : (fields.mapM (m := Sem) fun f => do pure (f.offset, ← sizeOf f.type)).run P w = .ok (fields.map fun f => (f.offset, ((P.info? f.type).map (·.size)).getD 0)) w := by
    rw [Array.mapM_eq_mapM_toList, Sem.run_map, hrp]
    show Result.ok _ w = Result.ok _ w
    congr 1
    apply Array.ext'
    simp
  have hz1 : (zeroValue t).run P w = .ok z w := by simp [zeroValue, typeInfo, hi, hz]
  refine ok_bld_of (place := fun k => (fields.map fun f => (f.offset, ((P.info? f.type).map (·.size)).getD 0))[k]?) ho (fun vs cells hfl => ?_) ?_ hf h hd hK
  · unfold Instr.build
    simp only [Sem.run_bind, hz1, Result.andThen_ok, run_underlying ht, hplaces]
    simp only [hfl]
    simp
  · have := mapM_some_map hpl
    rw [← this]
    refine List.map_congr_left fun p _ => ?_
    simp only [Array.getElem?_map]
    cases hfp : fields[p.1]? with
    | none => simp
    | some f =>
      have hm : f ∈ fields.toList := by
        obtain ⟨hlt, rfl⟩ := Array.getElem?_eq_some_iff.1 hfp
        simp
      obtain ⟨inf, hinf⟩ := Option.isSome_iff_exists.1 (hall f hm)
      simp [hinf]
theorem ok_bld_array {t e : TypeId} {n : Nat} {parts : Array (Nat × Operand)} {i inf : TypeInfo} {z : Value} (ho : o.op = .build t parts) (ht : P.underlying t = some (.array n e)) (hi : P.info? t = some i) (hz : i.zero = some z) (hinf : P.info? e = some inf)
    (hf : a.defers = []) (h : Sim w0 mu N s a.tmps w phi ro) (hd : ∀ k, o.dst = some k → k < N)
    (hK : aexec P own (.pu (.bld z.cells.toList (parts.toList.map fun p => (p.1 * inf.size, inf.size))) (parts.toList.map fun p => opd p.2)) o.dst s K) : o.wp P a w (After w0 mu N K) Q := by
  refine ok_bld_of (place := fun k => some (k * inf.size, inf.size)) ho (fun vs cells hfl => ?_) (by simp) hf h hd hK
  simp [Instr.build, zeroValue, typeInfo, hi, hz, run_underlying ht, sizeOf, hinf] at hfl ⊢
  simp [hfl]
theorem ok_acut {t e : TypeId} {n : Nat} {x : Operand} {lo hi' : Option Operand} {i : TypeInfo} (ho : o.op = .slice t x lo hi' none) (ht : P.underlying t = some (.array n e)) (hi : P.info? e = some i)
    (hf : a.defers = []) (h : Sim w0 mu N s a.tmps w phi ro) (hd : ∀ k, o.dst = some k → k < N)
    (hK : aexec P own (.acut i.size n (opd x) (lo.map opd) (hi'.map opd)) o.dst s K) : o.wp P a w (After w0 mu N K) Q := by
  obtain ⟨r, off, l, hh, fl, cs, he, hr, hlo, hhi, h1, h2, h3, h4, hK⟩ := hK
  have hx := h.ev x
  have hlo' := opt_bound (d := 0) (fun y => h.ev y) hlo
  have hhi' := opt_bound (d := n) (fun y => h.ev y) hhi
  rw [he] at hx
  simp only [SimV] at hx
  obtain ⟨hc, hl, b, hb, hy, cur0, e0, hcell0⟩ := hx
  obtain ⟨cur, e', hcell, hsim, _⟩ := h.cell hr hb hcell0
  have hlen := hsim.list.length_le
  simp only [Array.length_toList] at hlen
  have hsb : ∀ (k : IntKind) (x y : Nat) (code : BoundsCode), x ≤ y → (Instr.sliceBound (.int k x) y code).run P w = .ok x w := by
    intro k x y code hxy
    rw [run_sliceBound (P := P) w k x y code (by omega) (by omega)]
    simp
  have hbs : (Instr.sliceBounds false n n (lo.map a.eval) (hi'.map a.eval) none).run P w = .ok (l, hh, n) w := by
    unfold Instr.sliceBounds
    generalize lo.map a.eval = lo2 at hlo'
    generalize hi'.map a.eval = hi2 at hhi'
    cases lo2 with
    | none =>
      simp only [BndV] at hlo'
      subst hlo'
      cases hi2 with
      | none => simp only [BndV] at hhi'; subst hhi'; simp
      | some y =>
        obtain ⟨k, rfl⟩ := hhi'
        simp [hsb k hh n _ (by omega)]
    | some x =>
      obtain ⟨kx, rfl⟩ := hlo'
      cases hi2 with
      | none => simp only [BndV] at hhi'; subst hhi'; simp [hsb kx l hh _ h1]
      | some y =>
        obtain ⟨k, rfl⟩ := hhi'
        simp [hsb k hh n _ (by omega), hsb kx l hh _ h1]
  refine wp_value (v := .slice (some (if n = l then ⟨b, off, none⟩ else ⟨b, off + l * i.size, none⟩)) (hh - l) (n - l)) (w' := w) ?_ (After.put hf h hd ?_ hK)
  · simp [execOp, ho, Instr.sliceAt, Instr.sureAddr, run_underlying ht, hy, hbs, sizeOf, typeInfo, hi, addr_add]
  · simp only [SimV]
    refine ⟨hc, hl, .inr ?_⟩
    by_cases hnl : n = l
    · rw [if_pos hnl]
      refine ⟨b, off, n - l, cur, e', hb, rfl, hcell, ?_, by omega, by omega, by have : (n - l) * i.size = 0 := by rw [hnl]; simp
                                                                                 omega⟩
      by_cases hz : l * i.size = 0
      · exact .inl (by omega)
      · exact .inr ⟨by omega, by omega⟩
    · rw [if_neg hnl]
      refine ⟨b, off + l * i.size, n - l, cur, e', hb, rfl, hcell, .inl rfl, by omega, ?_, ?_⟩
      · simp only [maxLen]; omega
      · have : l * i.size + (n - l) * i.size = n * i.size := by rw [← Nat.add_mul]; congr 1; omega
        omega
theorem byteVs_sim {C : Ctx} : ∀ {bs : List UInt8} {news : List Value}, SimL (byteVs bs) C news → news.length = bs.length → news = bs.map fun b => .int .u8 b.toNat
  | [], [], _, _ => rfl
  | [], _ :: _, _, hl => by simp at hl
  | _ :: _, [], _, hl => by simp at hl
  | b :: bs, y :: news, h, hl => by
    simp only [byteVs, List.map_cons, SimL, SimV] at h
    rw [List.map_cons, h.1, byteVs_sim h.2 (by simpa using hl)]
theorem push_all : ∀ (bs : List UInt8) (acc : ByteArray), bs.foldl (fun s b => s.push b) acc = ⟨acc.data ++ bs.toArray⟩
  | [], acc => by cases acc; simp
  | b :: bs, acc => by
    rw [List.foldl_cons, push_all bs]
    cases acc
    simp [ByteArray.push]
theorem run_push (w : World) : ∀ (bs : List UInt8) (acc : ByteArray),
    (forIn (m := Sem) (bs.map fun b => Value.int .u8 b.toNat) acc fun c s => (match c with
      | .int .u8 n => pure (ForInStep.yield (s.push (UInt8.ofNat n.toNat)))
      | _ => do let _ ← (stuck "bytesToString: byte expected" : Sem PUnit); pure (ForInStep.yield s))).run P w = .ok (bs.foldl (fun s b => s.push b) acc) w
  | [], acc => by simp
  | b :: bs, acc => by
    rw [List.map_cons, List.forIn_cons]
    simp only [Int.toNat_natCast, Sem.run_bind, Sem.run_pure, Result.andThen_ok, List.foldl_cons]
    rw [show UInt8.ofNat b.toNat = b from by simp]
    exact run_push w bs _
theorem ok_bts {u t e : TypeId} {x : Operand} (ho : o.op = .convert u t x) (hu : P.underlying u = some (.slice e)) (he : P.underlying e = some (.int .u8)) (ht : P.underlying t = some .string)
    (hf : a.defers = []) (h : Sim w0 mu N s a.tmps w phi ro) (hd : ∀ k, o.dst = some k → k < N) (hK : aexec P own (.bts (opd x)) o.dst s K) : o.wp P a w (After w0 mu N K) Q := by
  obtain ⟨bs, hE, hK⟩ := hK
  obtain ⟨yb, yc, news, hy, hl, _, hs, hrun⟩ := elems_sim h hE (h.ev x)
  have hnews := byteVs_sim hs (by omega)
  subst hnews
  have hr := hrun w rfl
  refine wp_value (v := .string ⟨bs.toArray⟩) (w' := w) ?_ (After.put hf h hd sim_mk hK)
  cases yb with
  | none =>
    have : bs = [] := by
      rw [hy] at hr
      simp [Builtin.firstCells] at hr
      exact hr
    subst this
    simp [execOp, ho, convert, run_underlying hu, run_underlying ht, run_underlying he, hy, Conv.bytesToString]
    rfl
  | some ad =>
    have hr' : (loadCells ad bs.length).run P w = .ok (bs.map fun b => Value.int .u8 b.toNat).toArray w := by
      rw [hy] at hr
      simpa [Builtin.firstCells] using hr
    have hp := run_push (P := P) w bs ByteArray.empty
    rw [push_all] at hp
    simp [execOp, ho, convert, run_underlying hu, run_underlying ht, run_underlying he, hy, Conv.bytesToString, hr']
    simp at hp
    exact hp
theorem ok_rng {t : TypeId} {x : Operand} (ho : o.op = .range t x) (ht : P.underlying t = some .string)
    (hf : a.defers = []) (h : Sim w0 mu N s a.tmps w phi ro) (hd : ∀ k, o.dst = some k → k < N) (hK : aexec P own (.rng (opd x)) o.dst s K) : o.wp P a w (After w0 mu N K) Q := by
  obtain ⟨r, b, hr, hx, hK⟩ := hK
  have hx' := h.ev x
  rw [hx] at hx'
  have hx' := sim_v hx'
  obtain ⟨phi', hp, h1⟩ := h.newOb (More.alloc w _) r (Nat.lt_of_lt_of_le (hd r hr) h.npb) (o := .stringIter b 0) (Nat.le_refl _) (heap_alloc_new w _) rfl
  refine wp_value (v := .pointer (some ⟨w.heap.size, 0, none⟩)) (w' := w.alloc (.stringIter b 0)) ?_ (After.put hf h1 hd ?_ hK)
  · simp [execOp, ho, Instr.range, run_underlying ht, hx', newObj, Sem.run]
  · simp only [SimV]
    exact ⟨rfl, by simp [ctx, AS.mem], _, hp, rfl⟩
/-- The object that a region holds. -/
theorem ob_at (h : Sim w0 mu N s a.tmps w phi ro) {r k : Nat} {ob : Obj} (hr : s.hp r = some (true, [.ob ob])) (hk : phi r = some k) : w.heap[k]? = some ob := by
  rcases h.liv r _ hr with ⟨_, h2, _⟩ | ⟨k', cur, e, _, _, _, _, h5⟩ | ⟨k', o', h0, h1, h2, _⟩
  · simp at h2
  · simp only [SimR, if_true] at h5
    cases hc : cur.toList with
    | nil => rw [hc] at h5; simp [SimL] at h5
    | cons y ys => rw [hc] at h5; simp [SimL, SimV] at h5
  · simp only [Prod.mk.injEq, List.cons.injEq, and_true, true_and, AV.ob.injEq] at h0
    rw [hk] at h1
    cases h1
    rw [h2, ← h0]
theorem ok_mmk {t : TypeId} (ho : o.op = .makeMap t none)
    (hf : a.defers = []) (h : Sim w0 mu N s a.tmps w phi ro) (hd : ∀ k, o.dst = some k → k < N) (hK : aexec P own .mmk o.dst s K) : o.wp P a w (After w0 mu N K) Q := by
  obtain ⟨r, hr, hK⟩ := hK
  obtain ⟨phi', hp, h1⟩ := h.newOb (More.alloc w _) r (Nat.lt_of_lt_of_le (hd r hr) h.npb) (o := .map #[] 0) (Nat.le_refl _) (heap_alloc_new w _) rfl
  refine wp_value (v := .map (some w.heap.size)) (w' := w.alloc (.map #[] 0)) ?_ (After.put hf h1 hd ?_ hK)
  · simp [execOp, ho, Instr.makeMap, newObj, Sem.run]
  · simp only [SimV]
    exact ⟨rfl, by simp [ctx, AS.mem], _, hp, rfl⟩
theorem ok_mget {t kt et : TypeId} {x i : Operand} {ok : Bool} {k : IntKind} {inf : TypeInfo} {z : Value} (ho : o.op = .lookup t x i ok) (ht : P.underlying t = some (.map kt et)) (hkt : P.underlying kt = some (.int k))
    (hi : P.info? et = some inf) (hz : inf.zero = some z)
    (hf : a.defers = []) (h : Sim w0 mu N s a.tmps w phi ro) (hd : ∀ k, o.dst = some k → k < N) (hK : aexec P own (.mget k z ok (opd x) (opd i)) o.dst s K) : o.wp P a w (After w0 mu N K) Q := by
  obtain ⟨r, es, clock, j, hx, hr, hj, hkeys, hK1, hK2⟩ := hK
  have hx' := h.ev x
  have hj' := h.ev i
  rw [hx] at hx'
  rw [hj] at hj'
  have hj' := sim_v hj'
  simp only [SimV] at hx'
  obtain ⟨_, _, b, hb, hx'⟩ := hx'
  have hcell := ob_at h hr hb
  have hik : MapKept.IsKey (.int k) (.int k j) := rfl
  have hiks : ∀ e ∈ es.toList, MapKept.IsKey (.int k) e.key := fun e he => by
    obtain ⟨q, hq⟩ := hkeys e he
    rw [hq]; rfl
  rcases MapKept.findNow_spec hik es.toList 0 hiks with ⟨h1, h2⟩ | ⟨n, e, h1, h2, h3⟩
  · refine wp_value (v := if ok then .tuple #[z, .bool false] else z) (w' := w) ?_ (After.put hf h hd ?_ (hK2 h2))
    · simp [execOp, ho, Instr.lookup, run_underlying ht, hx', hj', MapKept.run_getObj_map hcell, MapKept.run_checkKey hkt hik, MapKept.run_findKey hkt h1, zeroValue, typeInfo, hi, hz]
    · cases ok <;> simp [mres, SimV, SimL]
  · refine wp_value (v := if ok then .tuple #[e.val, .bool true] else e.val) (w' := w) ?_ (After.put hf h hd ?_ (hK1 e (List.mem_of_getElem? h2) h3))
    · simp [execOp, ho, Instr.lookup, run_underlying ht, hx', hj', MapKept.run_getObj_map hcell, MapKept.run_checkKey hkt hik, MapKept.run_findKey hkt h1]
    · cases ok <;> simp [mres, SimV, SimL]
theorem ok_mput {t kt et : TypeId} {x i y : Operand} {k : IntKind} (ho : o.op = .mapUpdate t x i y ∨ o.op = .insert t x i y) (ht : P.underlying t = some (.map kt et)) (hkt : P.underlying kt = some (.int k))
    (hf : a.defers = []) (h : Sim w0 mu N s a.tmps w phi ro) (hdst : o.dst = none) (hK : aexec P own (.mput k (opd x) (opd i) (opd y)) o.dst s K) : o.wp P a w (After w0 mu N K) Q := by
  obtain ⟨r, es, clock, j, v, hx, hr, hj, hy, hkeys, hK1, hK2⟩ := hK
  have hx' := h.ev x
  have hj' := h.ev i
  have hy' := h.ev y
  rw [hx] at hx'
  rw [hj] at hj'
  rw [hy] at hy'
  have hj' := sim_v hj'
  have hy' := sim_v hy'
  simp only [SimV] at hx'
  obtain ⟨_, _, b, hb, hx'⟩ := hx'
  have hb : phi r = some b := hb
  have hcell := ob_at h hr hb
  have hlt := lt_of_get hcell
  have hik : MapKept.IsKey (.int k) (.int k j) := rfl
  have hiks : ∀ e ∈ es.toList, MapKept.IsKey (.int k) e.key := fun e he => by
    obtain ⟨q, hq⟩ := hkeys e he
    rw [hq]; rfl
  have fin : ∀ o' : Obj, isCells o' = false → K (s.mem r (true, [.ob o'])) → (execOp a.eval o).run P w = .ok .skip { w with heap := w.heap.setIfInBounds b o' } → o.wp P a w (After w0 mu N K) Q := by
    intro o' ho' hK hrun
    refine wp_skip_op hrun ⟨_, hK, by rw [put_defers]; exact hf, phi, ro, ?_⟩
    rw [hdst]
    exact h.writeOb hr hb hcell rfl (by simp [hlt]) ho' (fun q hq _ => by simp [Ne.symm hq]) rfl rfl rfl (by simp)
  rcases MapKept.findNow_spec hik es.toList 0 hiks with ⟨h1, h2⟩ | ⟨n, e, h1, h2, h3⟩
  · refine fin _ rfl (hK2 h2) ?_
    rcases ho with ho | ho <;> simp [execOp, ho, Instr.mapUpdate, run_underlying ht, hx', hj', hy', MapKept.run_getObj_map hcell, MapKept.run_checkKey hkt hik, MapKept.run_findKey hkt h1, MapKept.run_setObj_map _ hcell]
  · refine fin _ rfl (hK1 n e h2 h3) ?_
    have h2' : es[n]? = some e := by simpa using h2
    have hst : (Instr.keyThatStays e.key (.int k j)).run P w = .ok (.int k j) w := by
      rw [h3]; exact MapKept.run_keyThatStays hik
    rcases ho with ho | ho <;> simp [execOp, ho, Instr.mapUpdate, run_underlying ht, hx', hj', hy', MapKept.run_getObj_map hcell, MapKept.run_checkKey hkt hik, MapKept.run_findKey hkt h1, h2', hst, MapKept.run_setObj_map _ hcell]
theorem mapAt_cell (h : Sim w0 mu N s a.tmps w phi ro) {x : AV} {y : Value} {es : Array MapEntry} {clock : Nat} (hm : MapAt s x es clock) (hx : SimV x (ctx w0 w ro phi s) y) : ∃ b, y = .map (some b) ∧ w.heap[b]? = some (.map es clock) := by
  rcases hm with ⟨r, rfl, hr⟩ | ⟨fr, rfl⟩
  · simp only [SimV] at hx
    obtain ⟨_, _, b, hb, hy⟩ := hx
    exact ⟨b, hy, ob_at h hr hb⟩
  · simp only [SimV] at hx
    obtain ⟨b, hy, hb, _⟩ := hx
    exact ⟨b, hy, hb⟩
theorem ok_mgetk {t kt et : TypeId} {x i : Operand} {ok : Bool} {inf : TypeInfo} {z : Value} (ho : o.op = .lookup t x i ok) (ht : P.underlying t = some (.map kt et))
    (hi : P.info? et = some inf) (hz : inf.zero = some z)
    (hf : a.defers = []) (h : Sim w0 mu N s a.tmps w phi ro) (hd : ∀ k, o.dst = some k → k < N) (hK : aexec P own (.mgetk kt z ok (opd x) (opd i)) o.dst s K) : o.wp P a w (After w0 mu N K) Q := by
  obtain ⟨KL, es, clock, kv, hx, hj, ⟨lk, hlk⟩, hkeys, res, hK1, hK2, hK⟩ := hK
  obtain ⟨b, hx', hcell⟩ := mapAt_cell h hx (h.ev x)
  have hj' := exV_sim _ _ _ _ hj (h.ev i)
  rcases KL.find w hlk es.toList hkeys with ⟨h1, h2⟩ | ⟨n, e, h1, h2, h3⟩
  · refine wp_value (v := if ok then .tuple #[z, .bool false] else z) (w' := w) ?_ (After.put hf h hd (x := res) ?_ hK)
    · simp [execOp, ho, Instr.lookup, run_underlying ht, hx', hj', MapKept.run_getObj_map hcell, KL.check w _ hlk, h1, zeroValue, typeInfo, hi, hz]
    · rw [← hK2 h2]; cases ok <;> simp [mres, SimV, SimL]
  · refine wp_value (v := if ok then .tuple #[e.val, .bool true] else e.val) (w' := w) ?_ (After.put hf h hd (x := res) ?_ hK)
    · simp [execOp, ho, Instr.lookup, run_underlying ht, hx', hj', MapKept.run_getObj_map hcell, KL.check w _ hlk, h1]
    · rw [← hK1 e (List.mem_of_getElem? h2) h3]; cases ok <;> simp [mres, SimV, SimL]
theorem ok_mputk {t kt et : TypeId} {x i y : Operand} (ho : o.op = .mapUpdate t x i y ∨ o.op = .insert t x i y) (ht : P.underlying t = some (.map kt et))
    (hf : a.defers = []) (h : Sim w0 mu N s a.tmps w phi ro) (hdst : o.dst = none) (hK : aexec P own (.mputk kt (opd x) (opd i) (opd y)) o.dst s K) : o.wp P a w (After w0 mu N K) Q := by
  obtain ⟨KL, r, es, clock, kv, v, hx, hr, hj, hy, ⟨lk, hlk⟩, hkeys, hK1, hK2⟩ := hK
  have hx' := h.ev x
  have hj' := exV_sim _ _ _ _ hj (h.ev i)
  have hy' := h.ev y
  rw [hx] at hx'
  rw [hy] at hy'
  have hy' := sim_v hy'
  simp only [SimV] at hx'
  obtain ⟨_, _, b, hb, hx'⟩ := hx'
  have hb : phi r = some b := hb
  have hcell := ob_at h hr hb
  have hlt := lt_of_get hcell
  have fin : ∀ o' : Obj, isCells o' = false → K (s.mem r (true, [.ob o'])) → (execOp a.eval o).run P w = .ok .skip { w with heap := w.heap.setIfInBounds b o' } → o.wp P a w (After w0 mu N K) Q := by
    intro o' ho' hK hrun
    refine wp_skip_op hrun ⟨_, hK, by rw [put_defers]; exact hf, phi, ro, ?_⟩
    rw [hdst]
    exact h.writeOb hr hb hcell rfl (by simp [hlt]) ho' (fun q hq _ => by simp [Ne.symm hq]) rfl rfl rfl (by simp)
  rcases KL.find w hlk es.toList hkeys with ⟨h1, h2⟩ | ⟨n, e, h1, h2, h3⟩
  · refine fin _ rfl (hK2 h2) ?_
    rcases ho with ho | ho <;> simp [execOp, ho, Instr.mapUpdate, run_underlying ht, hx', hj', hy', MapKept.run_getObj_map hcell, KL.check w _ hlk, h1, MapKept.run_setObj_map _ hcell]
  · refine fin _ rfl (hK1 n e h2 h3) ?_
    have h2' : es[n]? = some e := by simpa using h2
    have hst : (Instr.keyThatStays e.key kv).run P w = .ok kv w := by
      rw [h3]; exact KL.stays w hlk
    rcases ho with ho | ho <;> simp [execOp, ho, Instr.mapUpdate, run_underlying ht, hx', hj', hy', MapKept.run_getObj_map hcell, KL.check w _ hlk, h1, h2', hst, MapKept.run_setObj_map _ hcell]
/-- The map that an iterator runs over. -/
theorem mit_cell (h : Sim w0 mu N s a.tmps w phi ro) {r bm : Nat} {m : Option Nat} {es0 es : Array MapEntry} {ck0 clock : Nat} {y : Value} (hx : SimV (.mit r m bm es0 ck0) (ctx w0 w ro phi s) y)
    (hm : (∃ q, m = some q ∧ q ≠ r ∧ s.hp q = some (true, [.ob (.map es clock)])) ∨ (m = none ∧ es = es0 ∧ clock = ck0)) :
    (∃ b, phi r = some b ∧ y = .pointer (some ⟨b, 0, none⟩)) ∧ w.heap[bm]? = some (.map es clock) := by
  simp only [SimV] at hx
  obtain ⟨_, _, ⟨b, hb, hy⟩, h3⟩ := hx
  refine ⟨⟨b, hb, hy⟩, ?_⟩
  rcases hm with ⟨q, rfl, _, hq⟩ | ⟨rfl, rfl, rfl⟩
  · rcases h3 with ⟨q', h4, _, h5⟩ | ⟨h4, _⟩
    · cases h4
      exact ob_at h hq h5
    · cases h4
  · rcases h3 with ⟨q', h4, _, h5⟩ | ⟨_, _, h5⟩
    · cases h4
    · exact h5
theorem ok_mrg {t kt et : TypeId} {x : Operand} (ho : o.op = .range t x) (ht : P.underlying t = some (.map kt et))
    (hf : a.defers = []) (h : Sim w0 mu N s a.tmps w phi ro) (hd : ∀ k, o.dst = some k → k < N) (hK : aexec P own (.mrg (opd x)) o.dst s K) : o.wp P a w (After w0 mu N K) Q := by
  obtain ⟨r, hr, hK⟩ := hK
  have hx' := h.ev x
  have hrN := Nat.lt_of_lt_of_le (hd r hr) h.npb
  rcases hK with ⟨q, es, clock, hx, hqr, hq, hK⟩ | ⟨fr, es, clock, hx, hK⟩
  · rw [hx] at hx'
    simp only [SimV] at hx'
    obtain ⟨_, _, bm, hbm, hy⟩ := hx'
    have hbm : phi q = some bm := hbm
    have hcell := ob_at h hq hbm
    obtain ⟨phi', hp, hphi, h1⟩ := h.newOb2 (More.alloc w _) r hrN (o := .mapIter (some bm) clock #[] clock) (Nat.le_refl _) (heap_alloc_new w _) rfl
    have hq' : ((s.kill r).mem r (true, [.ob (.mapIter (some bm) clock #[] clock)])).hp q = some (true, [.ob (.map es clock)]) := by simp [AS.mem, AS.kill, hqr, hq, killR]
    refine wp_value (v := .pointer (some ⟨w.heap.size, 0, none⟩)) (w' := w.alloc (.mapIter (some bm) clock #[] clock)) ?_ (After.put hf h1 hd ?_ (hK bm))
    · simp [execOp, ho, Instr.range, run_underlying ht, hy, MapKept.run_getObj_map hcell]
    · simp only [SimV]
      exact ⟨rfl, by simp [ctx, AS.mem], ⟨_, hp, rfl⟩, .inl ⟨q, rfl, by simp [ctx, hq'], (hphi q hqr).trans hbm⟩⟩
  · rw [hx] at hx'
    simp only [SimV] at hx'
    obtain ⟨bm, hy, hcell, hro, _⟩ := hx'
    obtain ⟨phi', hp, hphi, h1⟩ := h.newOb2 (More.alloc w _) r hrN (o := .mapIter (some bm) clock #[] clock) (Nat.le_refl _) (heap_alloc_new w _) rfl
    refine wp_value (v := .pointer (some ⟨w.heap.size, 0, none⟩)) (w' := w.alloc (.mapIter (some bm) clock #[] clock)) ?_ (After.put hf h1 hd ?_ (hK bm))
    · simp [execOp, ho, Instr.range, run_underlying ht, hy, MapKept.run_getObj_map hcell]
    · simp only [SimV]
      exact ⟨rfl, by simp [ctx, AS.mem], ⟨_, hp, rfl⟩, .inr ⟨by trivial, hro, (heap_alloc_old w _ (lt_of_get hcell)).trans hcell⟩⟩
theorem ok_mnx {x : Operand} (ho : o.op = .next x false)
    (hf : a.defers = []) (h : Sim w0 mu N s a.tmps w phi ro) (hd : ∀ k, o.dst = some k → k < N) (hK : aexec P own (.mnx (opd x)) o.dst s K) : o.wp P a w (After w0 mu N K) Q := by
  obtain ⟨r, m, bm, es0, ck0, since, seen, c0, es, clock, hx, hr, hm, hold, hsc, hK1, hK2⟩ := hK
  have hx' := h.ev x
  rw [hx] at hx'
  obtain ⟨⟨b, hb, hy⟩, hmap⟩ := mit_cell h hx' hm
  have hit := ob_at h hr hb
  have hlt := lt_of_get hit
  rcases run_next_at (P := P) w o.type b bm since c0 seen es clock hit hmap hold hsc with ⟨h1, h2⟩ | ⟨e, he, w1, hw1, h2⟩
  · have hall : ∀ e ∈ es.toList, seen.contains e.born = true := by
      intro e he
      have h3 : leftOf es seen = #[] := Array.eq_empty_of_size_eq_zero h1
      rw [leftOf, Array.filter_eq_empty_iff] at h3
      simpa using h3 e (by simpa using he)
    refine wp_value (v := .tuple #[.bool false]) (w' := w) ?_ (After.put hf h hd ?_ (hK1 hall))
    · simp [execOp, ho, hy, h2]
    · simp [SimV, SimL]
  · have he' : e ∈ es.toList ∧ seen.contains e.born = false := by
      simp only [leftOf, Array.mem_toList_iff, Array.mem_filter] at he
      exact ⟨by simpa using he.1, by simpa using he.2⟩
    have hmore : More w w1 := by rcases hw1 with rfl | rfl; exact More.refl _; exact More.drew _
    have h1 := h.more_same hmore
    have hit1 : w1.heap[b]? = some (.mapIter (some bm) since seen c0) := by rcases hw1 with rfl | rfl <;> exact hit
    have hsim := h1.writeOb (w' := ChangeMaps.setBlock w1 b (.mapIter (some bm) since (seen.push e.born) clock)) hr hb hit1 rfl (o' := .mapIter (some bm) since (seen.push e.born) clock)
      (by have := lt_of_get hit1; simp [ChangeMaps.setBlock, this]) rfl (fun j hj _ => by simp [ChangeMaps.setBlock, Ne.symm hj]) rfl rfl rfl (by simp [ChangeMaps.setBlock])
    refine wp_value (v := .tuple #[.bool true, e.key, e.val]) ?_ (After.put hf hsim hd ?_ (hK2 e he'.1 he'.2))
    · simp [execOp, ho, hy, h2]
    · simp [SimV, SimL]
theorem ok_ment {x : Operand} (ho : o.op = .entry x)
    (hf : a.defers = []) (h : Sim w0 mu N s a.tmps w phi ro) (hd : ∀ k, o.dst = some k → k < N) (hK : aexec P own (.ment (opd x)) o.dst s K) : o.wp P a w (After w0 mu N K) Q := by
  obtain ⟨r, m, bm, es0, ck0, since, seen, es, clock, e, ka, va, hx, hr, hm, he, hn, hka, hva, hK⟩ := hK
  have hx' := h.ev x
  rw [hx] at hx'
  obtain ⟨⟨b, hb, hy⟩, hmap⟩ := mit_cell h hx' hm
  have hit := ob_at h hr hb
  refine wp_value (v := .tuple #[e.key, e.val]) (w' := w) ?_ (After.put hf h hd ?_ hK)
  · simp [execOp, ho, hy, run_entry_at (P := P) w b bm since seen es clock e hit hmap he hn]
  · simp only [SimV]
    refine ⟨_, rfl, rfl, ?_⟩
    simp only [SimL]
    exact ⟨exV_mk _ _ _ hka, exV_mk _ _ _ hva, trivial⟩
theorem ok_mdel {t kt et : TypeId} {x i : Operand} {tys : Array TypeId} (ho : o.op = .call { callee := .builtin .delete, args := #[x, i], argTypes := tys }) (hty : tys[0]? = some t) (ht : P.underlying t = some (.map kt et))
    (hf : a.defers = []) (h : Sim w0 mu N s a.tmps w phi ro) (hd : ∀ k, o.dst = some k → k < N) (hK : aexec P own (.mdel kt (opd x) (opd i)) o.dst s K) : o.wp P a w (After w0 mu N K) Q := by
  obtain ⟨KL, r, es, clock, kv, hx, hr, hj, ⟨lk, hlk⟩, hkeys, hK1, hK2⟩ := hK
  have hx' := h.ev x
  have hj' := exV_sim _ _ _ _ hj (h.ev i)
  rw [hx] at hx'
  simp only [SimV] at hx'
  obtain ⟨_, _, b, hb, hx'⟩ := hx'
  have hb : phi r = some b := hb
  have hcell := ob_at h hr hb
  have hlt := lt_of_get hcell
  have fin : ∀ o' : Obj, isCells o' = false → K ((s.mem r (true, [.ob o'])).put o.dst (.tup [])) → (execOp a.eval o).run P w = .ok (.value (.tuple #[])) { w with heap := w.heap.setIfInBounds b o' } → o.wp P a w (After w0 mu N K) Q := by
    intro o' ho' hK hrun
    have hsim := h.writeOb (w' := { w with heap := w.heap.setIfInBounds b o' }) hr hb hcell rfl (o' := o') (by simp [hlt]) ho' (fun q hq _ => by simp [Ne.symm hq]) rfl rfl rfl (by simp)
    exact wp_value hrun (After.put hf hsim hd (by simp [SimV, SimL]) hK)
  rcases KL.find w hlk es.toList hkeys with ⟨h1, h2⟩ | ⟨n, e, h1, h2, h3⟩
  · refine fin _ rfl (hK2 h2) ?_
    simp [execOp, ho, resolve, invoke, builtin, Builtin.delete_, hty, run_underlying ht, hx', hj', MapKept.run_getObj_map hcell, KL.check w _ hlk, h1, MapKept.run_setObj_map _ hcell]
  · refine fin _ rfl (hK1 n e h2 h3) ?_
    simp [execOp, ho, resolve, invoke, builtin, Builtin.delete_, hty, run_underlying ht, hx', hj', MapKept.run_getObj_map hcell, KL.check w _ hlk, h1, MapKept.run_setObj_map _ hcell]
theorem ok_mnil {t kt et u : TypeId} {x : Operand} {op : BinOp} {ne : Bool} (ho : o.op = .binOp op t x (.const (.map none)) u) (hop : (op = .eql ∧ ne = false) ∨ (op = .neq ∧ ne = true)) (ht : P.underlying t = some (.map kt et))
    (hf : a.defers = []) (h : Sim w0 mu N s a.tmps w phi ro) (hd : ∀ k, o.dst = some k → k < N) (hK : aexec P own (.mnil ne (opd x)) o.dst s K) : o.wp P a w (After w0 mu N K) Q := by
  obtain ⟨hx, hK⟩ := hK
  have hx' := h.ev x
  obtain ⟨b, hy⟩ : ∃ b, a.eval x = .map (some b) := by
    rcases hx with ⟨r, hx⟩ | ⟨fr, es, clock, hx⟩
    · rw [hx] at hx'
      simp only [SimV] at hx'
      obtain ⟨_, _, b, _, hy⟩ := hx'
      exact ⟨b, hy⟩
    · rw [hx] at hx'
      simp only [SimV] at hx'
      obtain ⟨b, hy, _⟩ := hx'
      exact ⟨b, hy⟩
  have hev : a.eval (.const (.map none)) = .map none := rfl
  have heq' : (Op.equal t (.map (some b)) (.map none)).run P w = .ok false w := run_equal_map_nil w t kt et (some b) ht
  have hg : (eqGuard op t x (.const (.map none)) (.map (some b)) (.map none)).run P w = .ok () w := by unfold eqGuard; split <;> simp
  have hb : (binOp op t (.map (some b)) (.map none)).run P w = .ok (.bool ne) w := by
    rcases hop with ⟨rfl, rfl⟩ | ⟨rfl, rfl⟩
    · show ((do pure (.bool (← Op.equal t (.map (some b)) (.map none))) : Sem Value)).run P w = _
      rw [Sem.run_bind, heq']
      simp
    · show ((do pure (.bool (!(← Op.equal t (.map (some b)) (.map none)))) : Sem Value)).run P w = _
      rw [Sem.run_bind, heq']
      simp
  refine wp_value (v := .bool ne) (w' := w) ?_ (After.put hf h hd sim_mk hK)
  simp only [execOp, ho, hy, hev, Sem.run_bind, hg, Result.andThen_ok, hb, Sem.run_pure]
theorem simL_vs {C : Ctx} : ∀ {vs ys : List Value}, SimL (vs.map AV.v) C ys → ys.length = vs.length → ys = vs
  | [], ys, _, hl => List.eq_nil_of_length_eq_zero (by simpa using hl)
  | v :: vs, [], h, _ => by simp [SimL] at h
  | v :: vs, y :: ys, h, hl => by
    simp only [List.map_cons, SimL, SimV] at h
    rw [h.1, simL_vs h.2 (by simpa using hl)]
theorem ok_xcall {f : FuncId} {args : Array Operand} {tys : Array TypeId} (ho : o.op = .call { callee := .value (.func f), args, argTypes := tys })
    (hf : a.defers = []) (h : Sim w0 mu N s a.tmps w phi ro) (hd : ∀ k, o.dst = some k → k < N) (hK : aexec P own (.xcall f (args.toList.map opd)) o.dst s K) : o.wp P a w (After w0 mu N K) Q := by
  obtain ⟨fn, e, vs, v, h1, h2, h3, h4, h5, h6, h7, hK⟩ := hK
  have hs := evs_sim h args.toList
  rw [List.map_map] at h6
  have hs' : SimL (vs.map AV.v) (ctx w0 w ro phi s) (args.toList.map a.eval) := by rw [← h6]; exact hs
  have hlen : vs.length = args.size := by
    have := congrArg List.length h6
    simpa using this.symm
  have hvs := simL_vs hs' (by simpa using hlen.symm)
  have hargs : args.map a.eval = vs.toArray := Array.ext' (by rw [Array.toList_map]; exact hvs)
  refine wp_value (v := v) (w' := w) ?_ (After.put hf h hd sim_mk hK)
  have hev : a.eval (.func f) = .func (.func f) #[] #[] := rfl
  simp [execOp, ho, resolve, hev, Deferred.ofValue, invoke, hargs, run_callFunc_extern h1 h2 h3 h4 h5, h7]
theorem ok_nchk {x : Operand} (ho : o.op = .nilCheck x)
    (hf : a.defers = []) (h : Sim w0 mu N s a.tmps w phi ro) (hd : ∀ k, o.dst = some k → k < N) (hK : aexec P own (.nchk (opd x)) o.dst s K) : o.wp P a w (After w0 mu N K) Q := by
  have hx := h.ev x
  rcases hK with ⟨r, off, he, hK⟩ | ⟨cs, he, hK⟩
  · rw [he] at hx
    have hx0 := hx
    simp only [SimV] at hx
    obtain ⟨_, _, b, _, hy, _⟩ := hx
    refine wp_value (v := a.eval x) (w' := w) ?_ (After.put hf h hd hx0 hK)
    simp [execOp, ho, hy]
  · rw [he] at hx
    have hx0 := hx
    simp only [SimV] at hx
    obtain ⟨b, o', cur, e', fz, hy, _⟩ := hx
    refine wp_value (v := a.eval x) (w' := w) ?_ (After.put hf h hd hx0 hK)
    simp [execOp, ho, hy]
theorem ok_nxs {x : Operand} (ho : o.op = .next x true)
    (hf : a.defers = []) (h : Sim w0 mu N s a.tmps w phi ro) (hd : ∀ k, o.dst = some k → k < N) (hK : aexec P own (.nxs (opd x)) o.dst s K) : o.wp P a w (After w0 mu N K) Q := by
  obtain ⟨r, b, p, hx, hr, hK1, hK2⟩ := hK
  have hx' := h.ev x
  rw [hx] at hx'
  simp only [SimV] at hx'
  obtain ⟨_, _, k, hk, hx'⟩ := hx'
  have hk : phi r = some k := hk
  have hb : w.heap[k]? = some (.stringIter b p) := by
    rcases h.liv r _ hr with ⟨_, h2, _⟩ | ⟨k', cur, e, _, _, _, _, h5⟩ | ⟨k', o', h0, h1, h2, _⟩
    · simp at h2
    · simp only [SimR, if_true] at h5
      cases hc : cur.toList with
      | nil => rw [hc] at h5; simp [SimL] at h5
      | cons y ys => rw [hc] at h5; simp [SimL, SimV] at h5
    · simp only [Prod.mk.injEq, List.cons.injEq, and_true, true_and, AV.ob.injEq] at h0
      rw [hk] at h1
      cases h1
      rw [h2, ← h0]
  have hks := lt_of_get hb
  by_cases hp : p < b.size
  · have hsim := h.writeOb (w' := { w with heap := w.heap.setIfInBounds k (.stringIter b (p + (Utf8.decode b p).2)) }) hr hk hb rfl (o' := .stringIter b (p + (Utf8.decode b p).2)) (by simp [hks]) rfl
      (fun j hj _ => by simp [Ne.symm hj]) rfl rfl rfl (by simp)
    refine wp_value (v := .tuple #[.bool true, .int .i64 (p : Nat), .int .i32 ((Utf8.decode b p).1 : Nat)]) ?_ (After.put hf hsim hd ?_ (hK2 hp))
    · simp [execOp, ho, Instr.next, hx', getObj, setObj, Sem.run, hb, hp, goInt]
    · simp [SimV, SimL]
  · refine wp_value (v := .tuple #[.bool false]) (w' := w) ?_ (After.put hf h hd ?_ (hK1 (by omega)))
    · simp [execOp, ho, Instr.next, hx', getObj, Sem.run, hb, hp]
    · simp [SimV, SimL]
/-- The first cells of a slice, in the model. -/
theorem elems_simk (h : Sim w0 mu N s a.tmps w phi ro) {z m : Nat} {x : AV} {ys : List AV} (he : Elems s.hp z x m ys) {y : Value} (hx : SimV x (ctx w0 w ro phi s) y) :
    ∃ yb yc news, y = .slice yb m yc ∧ news.length = m * z ∧ ys.length = m * z ∧ SimL ys (ctx w0 w ro phi s) news ∧ ∀ k : Nat, k ≤ m → (Builtin.firstCells z k y).run P w = .ok (news.take (k * z)).toArray w := by
  have block : ∀ (b o' cap : Nat) (cur : Array Value) (e : TypeId) (fz : Nat × Nat), w.heap[b]? = some (.cells cur e fz) → o' + m * z ≤ cur.size → y = .slice (some ⟨b, o', none⟩) m cap → ys.length = m * z →
      SimL ys (ctx w0 w ro phi s) ((cur.toList.drop o').take (m * z)) →
      ∃ yb yc news, y = .slice yb m yc ∧ news.length = m * z ∧ ys.length = m * z ∧ SimL ys (ctx w0 w ro phi s) news ∧ ∀ k : Nat, k ≤ m → (Builtin.firstCells z k y).run P w = .ok (news.take (k * z)).toArray w := by
    intro b o' cap cur e fz hb hle hy hys hs
    have hl : ((cur.toList.drop o').take (m * z)).length = m * z := by simp; omega
    refine ⟨_, cap, _, hy, hl, hys, hs, fun k hk => ?_⟩
    have hkm : k * z ≤ m * z := Nat.mul_le_mul_right _ hk
    rw [hy]
    refine run_firstCells_some (P := P) w z k _ m cap _ (by rw [List.length_take, hl]; omega) fun j v hj => ?_
    rw [addr_add, cell_of_row w b (o' + j) cur e fz hb]
    rw [List.getElem?_take] at hj
    split at hj
    · rw [List.getElem?_take] at hj
      split at hj
      · rw [List.getElem?_drop] at hj
        simpa using hj
      · cases hj
    · cases hj
  cases he with
  | ro fr cs n =>
    simp only [SimV] at hx
    rcases hx with ⟨rfl, rfl, ad, c, hy, _⟩ | ⟨b, o', cap, cur, e, fz, hy, hcell, hro, hlen, hnc, _, hs⟩
    · refine ⟨ad, c, [], hy, by simp, by simp, by simp [SimL], fun k hk => ?_⟩
      rw [hy]
      obtain rfl : k = 0 := by omega
      cases ad <;> simp [Builtin.firstCells, loadCells, loadCellsFrom]
    · have hle := hs.length_le
      have hcell' : w.heap[b]? = some (.cells cur e fz) := hcell
      simp only [List.length_drop, Array.length_toList] at hle
      by_cases hoc : o' ≤ cur.size
      · exact block b o' cap cur e fz hcell' (by omega) hy hlen (SimL.mono _ _ _ _ (out_le _) (hs.shorter _ (by omega)))
      · have hm : m * z = 0 := by omega
        have hcs : ys = [] := List.eq_nil_of_length_eq_zero (by omega)
        refine ⟨_, cap, [], hy, by simp [hm], hlen, by simp [hcs, SimL], fun k hk => ?_⟩
        have hkz : k * z = 0 := by have := Nat.mul_le_mul_right z hk; omega
        rw [hy]
        simp [Builtin.firstCells, hkz, loadCells, loadCellsFrom]
  | nil =>
    simp only [SimV] at hx
    refine ⟨none, 0, [], hx, by simp, by simp, by simp [SimL], fun k hk => ?_⟩
    rw [hx]
    simp [Builtin.firstCells]
  | sl r off n fl cs hr hl =>
    simp only [SimV] at hx
    obtain ⟨_, _, hx⟩ := hx
    rcases hx with ⟨hp, rfl, rfl, hy⟩ | ⟨b, o', cap, cur, e, hb, hy, hcell, hoff, hcap, hml, hroom⟩
    · refine ⟨none, 0, [], hy, by simp, by simp, by simp [SimL], fun k hk => ?_⟩
      rw [hy]
      simp [Builtin.firstCells]
    · obtain ⟨cur2, e2, hcell2, hsim, _⟩ := h.cell hr hb hcell
      have hcell' : w.heap[b]? = some (.cells cur e (0, 0)) := hcell
      rw [hcell'] at hcell2
      cases hcell2
      have hmz : m * z ≤ cap * z := Nat.mul_le_mul_right _ hcap
      by_cases hm : m * z = 0
      · refine ⟨_, cap, [], hy, by simp [hm], by simp [hm], by simp [hm, SimL], fun k hk => ?_⟩
        have hkz : k * z = 0 := by have := Nat.mul_le_mul_right z hk; omega
        rw [hy]
        simp [Builtin.firstCells, hkz, loadCells, loadCellsFrom]
      · have ho : o' = off := by
          rcases hoff with h1 | h1
          · exact h1
          · exact absurd (by rw [h1.1, Nat.zero_mul]) hm
        subst ho
        refine block b o' cap cur e (0, 0) hcell' (by omega) hy (by simp; omega) ?_
        exact ((hsim.list.drop o').take (m * z)).shorter _ (by simp; omega)
theorem mem_same {s : AS} {r : Nat} {c : Bool × List AV} (hr : s.hp r = some c) : s.mem r c = s := by
  have : (fun q => if q = r then some c else s.hp q) = s.hp := by
    funext q
    by_cases hq : q = r
    · subst hq; simp only [if_true]; exact hr.symm
    · simp [hq]
  show AS.mk s.tm _ = s
  rw [this]
theorem ok_cpy {x y : Operand} {t e : TypeId} {i : TypeInfo} (ho : o.op = .call { callee := .builtin .copy, args := #[x, y], argTypes := #[t, t] }) (ht : P.underlying t = some (.slice e)) (hi : P.info? e = some i)
    (hf : a.defers = []) (h : Sim w0 mu N s a.tmps w phi ro) (hd : ∀ k, o.dst = some k → k < N) (hK : aexec P own (.cpy i.size (opd x) (opd y)) o.dst s K) : o.wp P a w (After w0 mu N K) Q := by
  obtain ⟨r, off, n, fl, cs, m, ys, he, hr, hle, hE, hyl, hok, hK⟩ := hK
  obtain ⟨yb, yc, news, hy, hl, _, hs, hrun⟩ := elems_simk (P := P) h hE (h.ev y)
  have hx := h.ev x
  rw [he] at hx
  simp only [SimV] at hx
  obtain ⟨_, _, hx⟩ := hx
  have hmin : min m n * i.size ≤ m * i.size := Nat.mul_le_mul_right _ (Nat.min_le_left _ _)
  have hmin2 : min m n * i.size ≤ n * i.size := Nat.mul_le_mul_right _ (Nat.min_le_right _ _)
  have hrun1 := hrun (min m n) (Nat.min_le_left _ _)
  rw [hy] at hrun1
  by_cases hn : n = 0
  · subst hn
    simp only [Nat.min_zero, Nat.zero_mul, List.take_zero, List.append_nil, Nat.add_zero, List.take_append_drop, mem_same hr] at hK hrun1
    refine wp_value (v := .int .i64 (0 : Nat)) (w' := w) ?_ (After.put hf h hd sim_mk hK)
    rcases hx with ⟨_, _, _, hxv⟩ | ⟨b, o', cap, cur, e', hb, hxv, _⟩
    · simp [execOp, ho, resolve, invoke, builtin, Builtin.copy_, run_underlying ht, hxv, hy, Builtin.lenOf, sizeOf, typeInfo, hi, goInt, hrun1]
    · simp [execOp, ho, resolve, invoke, builtin, Builtin.copy_, run_underlying ht, hxv, hy, Builtin.lenOf, sizeOf, typeInfo, hi, goInt, hrun1, storeCells]
  · rcases hx with ⟨_, _, h0, _⟩ | ⟨b, o', cap, cur, e', hb, hxv, hcell, hoff, hcap, hml, hroom⟩
    · exact absurd h0 hn
    · have hoff' : o' = off := by
        rcases hoff with h1 | h1
        · exact h1
        · exact absurd h1.1 hn
      subst hoff'
      obtain ⟨cur2, e2, hcell2, hsim, _⟩ := h.cell hr hb hcell
      have hcell' : w.heap[b]? = some (.cells cur e' (0, 0)) := hcell
      rw [hcell'] at hcell2
      cases hcell2
      have hlen := hsim.length_le
      simp only [Array.length_toList] at hlen
      have hnc : n * i.size ≤ cap * i.size := Nat.mul_le_mul_right _ hcap
      have h1 : ∀ v ∈ news.take (min m n * i.size), v.oneCell' = true := fun v hv => cellOk_oneL hok hs (by omega) v (List.mem_of_mem_take hv)
      have hk : (news.take (min m n * i.size)).length = min m n * i.size := by rw [List.length_take]; omega
      have hst := run_storeCells_at P b o' e' (news.take (min m n * i.size)) 0 cur w hcell' (by rw [hk]; omega) h1
      simp only [Nat.add_zero] at hst
      rw [hk] at hst
      refine wp_value (v := .int .i64 (min m n : Nat)) (w' := w.setRow b (cur.toList.take o' ++ news.take (min m n * i.size) ++ cur.toList.drop (o' + min m n * i.size)).toArray) ?_ (After.put hf (h.write hr hb hcell' (setRow_heap w b cur _ e' _ hcell') ?_ (fun k hk _ => setRow_other w b k _ hk) rfl rfl rfl (by simp) ?_) hd sim_mk hK)
      · simp [execOp, ho, resolve, invoke, builtin, Builtin.copy_, run_underlying ht, hxv, hy, Builtin.lenOf, sizeOf, typeInfo, hi, goInt, hrun1, hst]
      · simp only [List.size_toArray, List.length_append, List.length_take, List.length_drop, Array.length_toList]
        omega
      · have hs' := (cellOk_simL hok hs).take (min m n * i.size) |>.shorter (min m n * i.size) (by simp; omega)
        have ht := (SimL.take o' hsim).shorter o' (by simp; omega)
        have hd2 := hsim.drop (o' + min m n * i.size)
        exact (ht.append (by simp; omega) hs').append (by simp; omega) hd2
theorem anInt_sim {x : AV} {p : IntKind × Int} {C : Ctx} {v : Value} (h : anInt x = some p) (hs : SimV x C v) : v = .int p.1 p.2 := by
  unfold anInt at h
  split at h
  · cases h; simpa only [SimV] using hs
  · cases h
theorem run_eq_int {t : TypeId} {k0 : IntKind} (ht : P.underlying t = some (.int k0)) (d : Nat) (k : IntKind) (p q : Int) (w : World) : (Op.equalIn (d + 1) t (.int k p) (.int k q)).run P w = .ok (p == q) w := by
  simp [Op.equalIn, run_underlying ht]
theorem intFields_run {xs ys : Array Value} {C : Ctx} {l m : List AV} (hx : SimL l C xs.toList) (hy : SimL m C ys.toList) (d : Nat) (w : World) : ∀ (fs : List Field) (offs : List Nat) (e : Bool), intFields P fs = some offs → intsEq l m offs = some e →
    (forIn (m := Sem) fs ((none, ()) : Option Bool × Unit) fun f _ =>
      if f.name = "_" then pure (ForInStep.yield (none, ()))
      else do
        let p ← part f.type xs f.offset
        let q ← part f.type ys f.offset
        let b ← Op.equalIn (d + 1) f.type p q
        if b = false then pure (ForInStep.done (some false, ())) else pure (ForInStep.yield (none, ()))).run P w = .ok (if e then (none, ()) else (some false, ())) w
  | [], offs, e, h1, h2 => by
    simp [intFields] at h1
    subst h1
    simp [intsEq] at h2
    subst h2
    simp
  | f :: fs, offs, e, h1, h2 => by
    unfold intFields at h1
    split at h1
    · rename_i k hk
      split at h1
      · cases h1
      · rename_i hn
        rw [Option.map_eq_some_iff] at h1
        obtain ⟨offs', h3, rfl⟩ := h1
        simp only [intsEq, Option.bind_eq_some_iff] at h2
        obtain ⟨u, hu, v, hv, p, hp, q, hq, h2⟩ := h2
        split at h2
        · rename_i hkk
          rw [Option.map_eq_some_iff] at h2
          obtain ⟨e', h4, rfl⟩ := h2
          have ih := intFields_run hx hy d w fs offs' e' h3 h4
          obtain ⟨yu, gu, su⟩ := hx.get hu
          obtain ⟨yv, gv, sv⟩ := hy.get hv
          have hu' := anInt_sim hp su
          have hv' := anInt_sim hq sv
          subst hu'; subst hv'
          have sh : shapeT P f.type = some none := by
            unfold shapeT
            cases hinf : P.info? f.type with
            | none => simp [Program.underlying, hinf] at hk
            | some inf => simp [hk]
          have e1 := run_part_one (P := P) (w := w) sh (cs := xs) (off := f.offset) (by simpa using gu)
          have e2 := run_part_one (P := P) (w := w) sh (cs := ys) (off := f.offset) (by simpa using gv)
          have e3 := run_eq_int (P := P) hk d p.1 p.2 q.2 w
          rw [hkk] at e1 e3
          rw [List.forIn_cons]
          simp only [hn, if_false, Sem.run_bind, e1, e2, Result.andThen_ok, e3]
          by_cases hpq : p.2 = q.2
          · simp [hpq]
            simpa using ih
          · simp [hpq]
        · cases h2
    · cases h1
theorem ok_aeq {op : BinOp} {ne : Bool} {t u : TypeId} {x y : Operand} {fs : Array Field} {offs : List Nat} (ho : o.op = .binOp op t x y u) (hop : op = if ne then .neq else .eql) (ht : P.underlying t = some (.struct fs))
    (hst : P.stoodInHeld t = false) (hg : P.eqGuardType P.depth t = false) (hoffs : intFields P fs.toList = some offs)
    (hf : a.defers = []) (h : Sim w0 mu N s a.tmps w phi ro) (hd : ∀ k, o.dst = some k → k < N) (hK : aexec P own (.pu (.aeq ne offs) [opd x, opd y]) o.dst s K) : o.wp P a w (After w0 mu N K) Q := by
  refine ok_pu (fun r hr => ?_) hf h hd hK
  have hx := h.ev x
  have hy := h.ev y
  obtain ⟨l, m, e, he, hi, rfl⟩ := hr
  rw [(list2 he).1] at hx
  rw [(list2 he).2] at hy
  obtain ⟨xs, hxv, _, hxs⟩ := sim_agg hx
  obtain ⟨ys, hyv, _, hys⟩ := sim_agg hy
  have heq : (Op.equal t (.agg xs) (.agg ys)).run P w = .ok e w := by
    unfold Op.equal Op.maxDepth
    unfold Op.equalIn
    simp [run_underlying ht, hst]
    rw [← Array.forIn_toList, intFields_run hxs hys 9998 w fs.toList offs e hoffs hi]
    cases e <;> simp
  have hgd : (eqGuard op t x y (.agg xs) (.agg ys)).run P w = .ok () w := by
    unfold eqGuard
    split <;> simp [hg]
  refine ⟨_, ?_, sim_mk⟩
  cases ne
  · simp only [Bool.false_eq_true, if_false] at hop
    subst hop
    simp [execOp, ho, hxv, hyv, hgd, binOp, heq]
  · simp only [if_true] at hop
    subst hop
    simp [execOp, ho, hxv, hyv, hgd, binOp, heq]
end Go.Am
namespace Go.Am
variable [Go.Am.CodeBlk]
variable {P : Program} {w0 w : World} {mu : Nat → Option Nat} {N : Nat} {s : AS} {o : Oper} {a : Act} {phi : Nat → Option Nat} {ro : Nat → Prop} {K : AS → Prop} {Q : Exit → Act → World → Prop} {own : Bool}
theorem call_ok {op : AOp} {c : Call} (ho : o.op = .call c) (hc : copCall P c = some op) (hf : a.defers = []) (h : Sim w0 mu N s a.tmps w phi ro) (hd : ∀ k, o.dst = some k → k < N)
    (hK : aexec P own op o.dst s K) : o.wp P a w (After w0 mu N K) Q := by
  obtain ⟨callee, args, tys⟩ := c
  unfold copCall at hc
  simp only at hc
  split at hc
  · split at hc
    · rename_i x t hx ht
      have ha : args = #[x] := Array.ext' (by simpa using hx)
      have hb : tys = #[t] := Array.ext' (by simpa using ht)
      subst ha
      subst hb
      split at hc
      · rename_i e ht; cases hc; exact ok_len ho ht hf h hd hK
      · rename_i ht; cases hc; exact ok_slen ho ht hf h hd hK
      · cases hc
    · cases hc
  · split at hc
    · rename_i x y t u hx ht
      have ha : args = #[x, y] := Array.ext' (by simpa using hx)
      have hb : tys = #[t, u] := Array.ext' (by simpa using ht)
      subst ha
      subst hb
      split at hc
      · rename_i e hu
        rw [Option.bind_eq_some_iff] at hc
        obtain ⟨i, hi, hc⟩ := hc
        rw [Option.bind_eq_some_iff] at hc
        obtain ⟨z, hz, hc⟩ := hc
        split at hc
        · rename_i hzs
          cases hc
          obtain ⟨hzs1, hzs2, rfl⟩ := hzs
          exact ok_app ho hu hi hz hzs1 hf h hd hK
        · split at hc
          · rename_i hzs2
            split at hc
            · rename_i kn hu2
              cases hc
              exact ok_appz ho hu hu2 hi hz hzs2.1 hzs2.2 hf h hd hK
            · cases hc
          · cases hc
      · cases hc
    · cases hc
  · split at hc
    · rename_i x y t u hx ht
      have ha : args = #[x, y] := Array.ext' (by simpa using hx)
      have hb : tys = #[t, u] := Array.ext' (by simpa using ht)
      subst ha
      subst hb
      split at hc
      · rename_i e hu
        rw [Option.bind_eq_some_iff] at hc
        obtain ⟨i, hi, hc⟩ := hc
        split at hc
        · rename_i htu
          cases hc
          obtain ⟨rfl, hpos⟩ := htu
          exact ok_cpy ho hu hi hf h hd hK
        · cases hc
      · cases hc
    · cases hc
  · split at hc
    · rename_i x y hx
      have ha : args = #[x, y] := Array.ext' (by simpa using hx)
      subst ha
      cases hc
      exact ok_mm (mx := true) ho hf h hd hK
    · cases hc
  · split at hc
    · rename_i x y hx
      have ha : args = #[x, y] := Array.ext' (by simpa using hx)
      subst ha
      cases hc
      exact ok_mm (mx := false) ho hf h hd hK
    · cases hc
  · split at hc
    · rename_i x t hx ht
      have ha : args = #[x] := Array.ext' (by simpa using hx)
      have hb : tys = #[t] := Array.ext' (by simpa using ht)
      subst ha
      subst hb
      split at hc
      · rename_i e ht; cases hc; exact ok_capn ho ht hf h hd hK
      · cases hc
    · cases hc
  · rename_i f
    split at hc
    · rename_i fn hfn
      split at hc
      · split at hc
        · cases hc
        · cases hc
          exact ok_xcall ho hf h hd hK
      · rename_i hb
        cases hc
        simp only [Bool.not_eq_true, Bool.or_eq_false_iff] at hb
        exact ok_call ho rfl hfn hb.1 hb.2 hf h hd hK
    · cases hc
  · rename_i x _
    cases hc
    have hev := h.ev x
    rcases hK with ⟨f, hx, ⟨fn, hfn, h1, h2⟩, hK⟩ | ⟨f, l, k, hx, ⟨fn, hfn, h1, h2⟩, hK⟩
    · rw [hx] at hev
      exact ok_call ho (sim_v hev) hfn h1 h2 hf h hd hK
    · rw [hx] at hev
      exact ok_callf ho hev hfn h1 h2 hf h hd hK
  · split at hc
    · rename_i x i t ts hx ht
      have ha : args = #[x, i] := Array.ext' (by simpa using hx)
      have hb : tys[0]? = some t := by rw [← Array.getElem?_toList, ht]; rfl
      subst ha
      split at hc
      · rename_i kt et hu; cases hc; exact ok_mdel ho hb hu hf h hd hK
      · cases hc
    · cases hc
  · cases hc
theorem op_ok0 {op : AOp} (hc : copOp0 P o = some op) (hf : a.defers = []) (h : Sim w0 mu N s a.tmps w phi ro) (hd : ∀ k, o.dst = some k → k < N)
    (hK : aexec P own op o.dst s K) : o.wp P a w (After w0 mu N K) Q := by
  unfold copOp0 at hc
  split at hc
  -- move
  · rename_i x ho
    split at hc
    · rename_i e hu
      rw [Option.map_eq_some_iff] at hc
      obtain ⟨i, hi, rfl⟩ := hc
      exact ok_nils (.inl ho) hf h hd hK
    · cases hc; exact ok_mov (.inl ho) hf h hd hK
  · rename_i x ho
    split at hc
    · rename_i e hu
      rw [Option.map_eq_some_iff] at hc
      obtain ⟨i, hi, rfl⟩ := hc
      exact ok_nils (.inr ho) hf h hd hK
    · cases hc; exact ok_mov (.inr ho) hf h hd hK
  · rename_i c x y ho; cases hc; exact ok_pick ho hf h hd hK
  · rename_i t x ho; cases hc; exact ok_not ho hf h hd hK
  · rename_i t x ho; cases hc; exact ok_neg ho hf h hd hK
  · rename_i t x ho; cases hc; exact ok_cpl ho hf h hd hK
  · rename_i op t x y u ho
    split at hc
    · cases hc; exact ok_bin ho hf h hd hK
    · cases hc; exact ok_bin ho hf h hd hK
    · rename_i ht
      split at hc
      · split at hc
        · rename_i e; cases hc; exact ok_isnil ho (by simpa using e) ht hf h hd hK
        · split at hc
          · rename_i e; cases hc; exact ok_isnil ho (by simpa using e) ht hf h hd hK
          · cases hc
      · cases hc
    · rename_i fs ht
      split at hc
      · rename_i hsg
        rw [Option.bind_eq_some_iff] at hc
        obtain ⟨offs, hoffs, hc⟩ := hc
        split at hc
        · rename_i e; cases hc; exact ok_aeq ho (by simpa using e) ht hsg.1 hsg.2 hoffs hf h hd hK
        · split at hc
          · rename_i e; cases hc; exact ok_aeq ho (by simpa using e) ht hsg.1 hsg.2 hoffs hf h hd hK
          · cases hc
      · cases hc
    · rename_i kt et ht
      split at hc
      · split at hc
        · rename_i e; cases hc; exact ok_mnil ho (by simpa using e) ht hf h hd hK
        · split at hc
          · rename_i e; cases hc; exact ok_mnil ho (by simpa using e) ht hf h hd hK
          · cases hc
      · cases hc
    · rename_i ht
      split at hc
      · rename_i e; cases hc; exact ok_beq ho (by simpa using e) ht hf h hd hK
      · split at hc
        · rename_i e; cases hc; exact ok_beq ho (by simpa using e) ht hf h hd hK
        · cases hc
    · rename_i ms ht
      split at hc
      · split at hc
        · rename_i e; cases hc; exact ok_inil ho (by simpa using e) ht hf h hd hK
        · split at hc
          · rename_i e; cases hc; exact ok_inil ho (by simpa using e) ht hf h hd hK
          · cases hc
      · cases hc
    · cases hc
  · rename_i t x i ho
    split at hc
    · rename_i e ht
      rw [Option.map_eq_some_iff] at hc
      obtain ⟨inf, hi, rfl⟩ := hc
      exact ok_idx ho ht hi hf h hd hK
    · rename_i n e ht
      rw [Option.map_eq_some_iff] at hc
      obtain ⟨inf, hi, rfl⟩ := hc
      exact ok_arr ho ht hi hf h hd hK
    · cases hc
  · rename_i t x ho
    rw [Option.map_eq_some_iff] at hc
    obtain ⟨k, hk, rfl⟩ := hc
    exact ok_ld ho hk hf h hd hK
  · rename_i t x y ho
    split at hc
    · cases hc
    · rename_i hdst
      have hdst' : o.dst = none := by simpa using hdst
      rw [Option.bind_eq_some_iff] at hc
      obtain ⟨k, hk, hc⟩ := hc
      rw [Option.bind_eq_some_iff] at hc
      obtain ⟨i, hi, hc⟩ := hc
      cases k with
      | none =>
        simp only at hc
        split at hc
        · rename_i h1; cases hc; exact ok_st ho hi h1 hf h hdst' hK
        · cases hc
      | some k =>
        simp only [Option.some.injEq] at hc
        subst hc
        obtain ⟨d, i', _, hi', hsz, _⟩ := shapeT_some hk
        rw [hi] at hi'
        cases hi'
        exact ok_st ho hi hsz hf h hdst' hK
  · rename_i t l c ho
    split at hc
    · rename_i e ht
      rw [Option.bind_eq_some_iff] at hc
      obtain ⟨i, hi, hc⟩ := hc
      rw [Option.bind_eq_some_iff] at hc
      obtain ⟨z, hz, hc⟩ := hc
      split at hc
      · rename_i hzs; cases hc; exact ok_mk ho ht hi hz hzs.1 hf h hd hK
      · cases hc
    · cases hc
  · rename_i t x lo hi ho
    split at hc
    · rename_i e ht
      rw [Option.map_eq_some_iff] at hc
      obtain ⟨i, hi, rfl⟩ := hc
      exact ok_cut ho ht hi hf h hd hK
    · rename_i n e ht
      rw [Option.map_eq_some_iff] at hc
      obtain ⟨i, hi, rfl⟩ := hc
      exact ok_acut ho ht hi hf h hd hK
    · rename_i ht; cases hc; exact ok_scut ho ht hf h hd hK
    · cases hc
  · rename_i t x hi' mx ho
    split at hc
    · rename_i e ht
      rw [Option.map_eq_some_iff] at hc
      obtain ⟨i, hi, rfl⟩ := hc
      exact ok_cut3 ho ht hi hf h hd hK
    · cases hc
  · rename_i t x lo hi' mx ho
    split at hc
    · rename_i e ht
      rw [Option.map_eq_some_iff] at hc
      obtain ⟨i, hi, rfl⟩ := hc
      exact ok_cut4 ho ht hi hf h hd hK
    · cases hc
  · rename_i c ho; exact call_ok ho hc hf h hd hK
  · rename_i x i ho; cases hc; exact ok_ext ho hf h hd hK
  · rename_i t ho
    rw [Option.bind_eq_some_iff] at hc
    obtain ⟨i, hi, hc⟩ := hc
    rw [Option.map_eq_some_iff] at hc
    obtain ⟨z, hz, rfl⟩ := hc
    exact ok_alloc ho hi hz hf h hd hK
  · rename_i t x ho
    rw [Option.bind_eq_some_iff] at hc
    obtain ⟨k, hk, hc⟩ := hc
    rw [Option.bind_eq_some_iff] at hc
    obtain ⟨i, hi, hc⟩ := hc
    cases k with
    | none =>
      simp only at hc
      split at hc
      · cases hc; exact ok_box ho hf h hd hK
      · cases hc
    | some k =>
      simp only [Option.some.injEq] at hc
      subst hc
      exact ok_box ho hf h hd hK
  · rename_i t n parts ho
    split at hc
    · rename_i e ht
      rw [Option.bind_eq_some_iff] at hc
      obtain ⟨i, hi, hc⟩ := hc
      rw [Option.bind_eq_some_iff] at hc
      obtain ⟨z, hz, hc⟩ := hc
      split at hc
      · rename_i hzs
        cases hc
        exact ok_bsl ho ht hi hz hzs.1 hzs.2.2 hzs.2.1 hf h hd hK
      · cases hc
    · cases hc
  · rename_i t x f ho
    split at hc
    · rename_i fields ht
      rw [Option.bind_eq_some_iff] at hc
      obtain ⟨fd, hfd, hc⟩ := hc
      rw [Option.bind_eq_some_iff] at hc
      obtain ⟨i, hi, hc⟩ := hc
      split at hc
      · cases hc
      · rename_i hz; cases hc; exact ok_fa ho ht hfd hi hz hf h hd hK
    · cases hc
  -- field
  · rename_i t x f ho
    split at hc
    · rename_i fields ht
      rw [Option.bind_eq_some_iff] at hc
      obtain ⟨fd, hfd, hc⟩ := hc
      rw [Option.map_eq_some_iff] at hc
      obtain ⟨k, hk, rfl⟩ := hc
      exact ok_fld ho ht hfd hk hf h hd hK
    · cases hc
  -- build
  · rename_i t parts ho
    rw [Option.bind_eq_some_iff] at hc
    obtain ⟨i, hi, hc⟩ := hc
    rw [Option.bind_eq_some_iff] at hc
    obtain ⟨z, hz, hc⟩ := hc
    split at hc
    · rename_i fields ht
      split at hc
      · rename_i hall
        rw [Option.map_eq_some_iff] at hc
        obtain ⟨pl, hpl, rfl⟩ := hc
        exact ok_bld_struct ho ht hi hz (fun f hfm => List.all_eq_true.1 hall f hfm) hpl hf h hd hK
      · cases hc
    · rename_i n e ht
      rw [Option.map_eq_some_iff] at hc
      obtain ⟨inf, hinf, rfl⟩ := hc
      exact ok_bld_array ho ht hi hz hinf hf h hd hK
    · cases hc
  -- index
  · rename_i t x i ho
    split at hc
    · rename_i n e ht
      rw [Option.bind_eq_some_iff] at hc
      obtain ⟨inf, hi, hc⟩ := hc
      rw [Option.map_eq_some_iff] at hc
      obtain ⟨k, hk, rfl⟩ := hc
      exact ok_aix ho ht hi hk hf h hd hK
    · rename_i ht; cases hc; exact ok_six ho ht hf h hd hK
    · cases hc
  -- convert
  · rename_i u t x ho
    split at hc
    · rename_i k0 k hu ht; cases hc; exact ok_cvt ho hu ht hf h hd hK
    · rename_i e hu ht
      split at hc
      · rename_i he; cases hc; exact ok_bts ho hu he ht hf h hd hK
      · cases hc
    · cases hc
  -- makeFunc
  · rename_i f first captured ho; cases hc; exact ok_mkf ho hf h hd hK
  -- range, next
  · rename_i t x ho
    split at hc
    · rename_i ht; cases hc; exact ok_rng ho ht hf h hd hK
    · rename_i kt et ht; cases hc; exact ok_mrg ho ht hf h hd hK
    · cases hc
  · rename_i x ho; cases hc; exact ok_nxs ho hf h hd hK
  · rename_i x ho; cases hc; exact ok_mnx ho hf h hd hK
  · rename_i x ho; cases hc; exact ok_ment ho hf h hd hK
  · rename_i x ho; cases hc; exact ok_nchk ho hf h hd hK
  · rename_i t ho; cases hc; exact ok_mmk ho hf h hd hK
  · rename_i t x i ok ho
    split at hc
    · rename_i kt et ht
      split at hc
      · rename_i k hkt
        rw [Option.bind_eq_some_iff] at hc
        obtain ⟨inf, hi, hc⟩ := hc
        rw [Option.map_eq_some_iff] at hc
        obtain ⟨z, hz, rfl⟩ := hc
        exact ok_mget ho ht hkt hi hz hf h hd hK
      · rw [Option.bind_eq_some_iff] at hc
        obtain ⟨inf, hi, hc⟩ := hc
        rw [Option.map_eq_some_iff] at hc
        obtain ⟨z, hz, rfl⟩ := hc
        exact ok_mgetk ho ht hi hz hf h hd hK
    · cases hc
  · rename_i t x i y ho
    split at hc
    · cases hc
    · rename_i hdst
      have hdst' : o.dst = none := by simpa using hdst
      split at hc
      · rename_i kt et ht
        split at hc
        · rename_i k hkt; cases hc; exact ok_mput (.inl ho) ht hkt hf h hdst' hK
        · cases hc; exact ok_mputk (.inl ho) ht hf h hdst' hK
      · cases hc
  · rename_i t x i y ho
    split at hc
    · cases hc
    · rename_i hdst
      have hdst' : o.dst = none := by simpa using hdst
      split at hc
      · rename_i kt et ht
        split at hc
        · rename_i k hkt; cases hc; exact ok_mput (.inr ho) ht hkt hf h hdst' hK
        · cases hc; exact ok_mputk (.inr ho) ht hf h hdst' hK
      · cases hc
  · cases hc
theorem op_ok {op : AOp} (hc : copOp P o = some op) (hf : a.defers = []) (h : Sim w0 mu N s a.tmps w phi ro) (hd : ∀ k, o.dst = some k → k < N)
    (hK : aexec P own op o.dst s K) : o.wp P a w (After w0 mu N K) Q := by
  unfold copOp at hc
  simp only [Option.some.injEq] at hc
  cases h0 : copOp0 P o with
  | some op' => rw [h0] at hc; subst hc; exact op_ok0 h0 hf h hd hK
  | none => rw [h0] at hc; subst hc; exact hK.elim
theorem tm_yield {t : Nat} {b : Bool} (h : Sim w0 mu N s a.tmps w phi ro) (ht : t < N) (hb : s.tm t = .v (.bool b)) : a.tmps[t]? = some (.bool b) := by
  have h1 := h.tms t
  rw [hb] at h1
  simp only [SimV] at h1
  have h2 : t < a.tmps.size := Nat.lt_of_lt_of_le ht h.slots
  simp [h2] at h1
  simp [h2, h1]
/-- An operation of the text, with its guard. -/
theorem op1_ok {ops : Array Oper} {i : Nat} {ao : AOper} {R : Act → World → Prop} (hi : ops[i]? = some o) (hc : cop P N ops o = some ao) (hS : Simw w0 mu N s a w) (hR : ∀ a w, After w0 mu N K a w → R a w)
    (hK : aop1 P own ao s K) : wpOp P ops Q i R a w := by
  obtain ⟨hf, phi, ro, h⟩ := hS
  unfold cop at hc
  rw [Option.bind_eq_some_iff] at hc
  obtain ⟨op, hop, hc⟩ := hc
  split at hc
  · rename_i hdst
    have hd : ∀ k, o.dst = some k → k < N := by
      intro k hk
      rw [hk] at hdst
      simpa [dstOk] using hdst
    have run : aexec P own op o.dst s K → o.wp P a w R Q := fun hx => (Oper.wp_mono hR (op_ok hop hf h hd hx))
    have skip : K (s.put o.dst (.v undef)) → R (a.put o.dst undef) w := fun hx => hR _ _ (After.put hf h hd (by simp [SimV]) hx)
    unfold wpOp
    rw [hi]
    cases hg : o.guard with
    | none =>
      rw [hg] at hc
      cases hc
      simp only [Region.wanted, hg, if_true]
      exact .inl (run hK)
    | some jw =>
      obtain ⟨j, wt⟩ := jw
      rw [hg] at hc
      simp only at hc
      rw [Option.bind_eq_some_iff] at hc
      obtain ⟨t, ht, hc⟩ := hc
      split at hc
      · rename_i htN
        cases hc
        simp only [aop1] at hK
        rcases hK with ⟨b, hb, h1, h2⟩ | ⟨hb, h2⟩
        · have hy : yielded ops a.tmps j = some b := by
            unfold yielded
            rw [ht]
            simp [tm_yield h htN hb]
          by_cases hbw : b = wt
          · simp only [Region.wanted, hg, hy, hbw, beq_self_eq_true, if_true]
            exact .inl (run (h1 hbw))
          · have hne : (some b == some wt) = false := by simp [hbw]
            simp only [Region.wanted, hg, hy, hne, Bool.false_eq_true, if_false]
            exact skip (h2 (by cases b <;> cases wt <;> simp_all))
        · have hy : yielded ops a.tmps j = none := by
            unfold yielded
            rw [ht]
            have h1 := h.tms t
            rw [hb] at h1
            simp only [SimV] at h1
            have h2 : t < a.tmps.size := Nat.lt_of_lt_of_le htN h.slots
            have h3 : a.tmps[t]? = some undef := by
              simp [h2] at h1
              simp [h2, h1]
            simp [h3, undef]
          simp only [Region.wanted, hg, hy]
          exact skip h2
      · cases hc
  · cases hc
theorem acall_mono {f : FuncId} {xs : List AV} {d : Option Nat} {K K' : AS → Prop} (h : ∀ s, K s → K' s) (hK : acallA P own f xs d s K) : acallA P own f xs d s K' := by
  unfold acallA at hK ⊢
  rcases hK with ⟨asx, res, h1, h2, h3⟩ | ⟨h0, r, z, n, cs, asx, res, cs', h1, h2, h3, h4, h5, h6, h7, h8⟩ | ⟨h0, asx, hin, ι, ok, res, hout, g, hp', h1, h2, h3, h4⟩ | ⟨h0, asx, hin, res, hout, g, p, hp', h1, h2, h3, h4⟩ | ⟨h0, r, x, g, h1, h2, h3, h4, h5⟩ | ⟨res, h1, h2⟩
  · refine .inl ⟨asx, res, h1, h2, ?_⟩
    rcases h3 with h3 | ⟨h0, r, z, cs, n, h3, h4, h5⟩
    · exact .inl (h _ h3)
    · refine .inr ⟨h0, r, z, cs, n, h3, h4, ?_⟩
      rcases h5 with ⟨h5, h6⟩ | ⟨rest, h5, h6, h7⟩
      · exact .inl ⟨h5, h _ h6⟩
      · exact .inr ⟨rest, h5, h6, h _ h7⟩
  · exact .inr (.inl ⟨h0, r, z, n, cs, asx, res, cs', h1, h2, h3, h4, h5, h6, h7, h _ h8⟩)
  · exact .inr (.inr (.inl ⟨h0, asx, hin, ι, ok, res, hout, g, hp', h1, h2, h3, fun i hi => ⟨(h4 i hi).1, h _ (h4 i hi).2⟩⟩))
  · exact .inr (.inr (.inr (.inl ⟨h0, asx, hin, res, hout, g, p, hp', h1, h2, h3, h _ h4⟩)))
  · exact .inr (.inr (.inr (.inr (.inl ⟨h0, r, x, g, h1, h2, h3, h4, h _ h5⟩))))
  · exact .inr (.inr (.inr (.inr (.inr ⟨res, h1, h _ h2⟩))))
theorem aexec_mono {op : AOp} {d : Option Nat} {K K' : AS → Prop} (h : ∀ s, K s → K' s) (hK : aexec P own op d s K) : aexec P own op d s K' := by
  cases op <;> simp only [aexec] at hK ⊢
  case mov => exact h _ hK
  case nils => rcases hK with h1 | ⟨r, h1, h2⟩; exact .inl (h _ h1); exact .inr ⟨r, h1, h _ h2⟩
  case pick => obtain ⟨t, h1, h2, h3⟩ := hK; exact ⟨t, h1, fun e => h _ (h2 e), fun e => h _ (h3 e)⟩
  case not => obtain ⟨t, h1, h2⟩ := hK; exact ⟨t, h1, h _ h2⟩
  case neg => obtain ⟨k, n, h1, h2⟩ := hK; exact ⟨k, n, h1, h _ h2⟩
  case bin => obtain ⟨p, q, r, h1, h2, h3, h4⟩ := hK; exact ⟨p, q, r, h1, h2, h3, h _ h4⟩
  case beq => obtain ⟨p, q, h1, h2, h3⟩ := hK; exact ⟨p, q, h1, h2, h _ h3⟩
  case len =>
    rcases hK with ⟨r, z, off, n, h1, h2⟩ | ⟨fr, z, cs, n, h1, h2⟩ | ⟨ad, n, c, h1, h2⟩
    · exact .inl ⟨r, z, off, n, h1, h _ h2⟩
    · exact .inr (.inl ⟨fr, z, cs, n, h1, h _ h2⟩)
    · exact .inr (.inr ⟨ad, n, c, h1, h _ h2⟩)
  case slen => obtain ⟨b, h1, h2⟩ := hK; exact ⟨b, h1, h _ h2⟩
  case capn => obtain ⟨b, n, c, h1, h2⟩ := hK; exact ⟨b, n, c, h1, h _ h2⟩
  case isnil => rcases hK with ⟨c, h1, h2⟩ | ⟨n, h1, h2, h3⟩; exact .inl ⟨c, h1, h _ h2⟩; exact .inr ⟨n, h1, fun e => h _ (h2 e), fun e b => h _ (h3 e b)⟩
  case idx =>
    obtain ⟨k, j, h1, h2, h3⟩ := hK
    refine ⟨k, j, h1, h2, ?_⟩
    rcases h3 with ⟨r, off, n, h3, h4, h5⟩ | ⟨fr, cs, n, h3, h4, h5⟩ | ⟨v, L, h3, h4, h5, h6, h7⟩
    · exact .inl ⟨r, off, n, h3, h4, h _ h5⟩
    · exact .inr (.inl ⟨fr, cs, n, h3, h4, h _ h5⟩)
    · exact .inr (.inr ⟨v, L, h3, h4, h5, h6, h _ h7⟩)
  case arr =>
    obtain ⟨k, j, h1, h2, h3, h4⟩ := hK
    refine ⟨k, j, h1, h2, h3, ?_⟩
    rcases h4 with ⟨r, off, h4, h5⟩ | ⟨cs, h4, h5⟩
    · exact .inl ⟨r, off, h4, h _ h5⟩
    · exact .inr ⟨cs, h4, h _ h5⟩
  case ld k x =>
    cases k with
    | none =>
      rcases hK with ⟨r, off, fl, cs, c, h1, h2, h3, h4⟩ | ⟨cs, c, h1, h2, h3⟩
      · exact .inl ⟨r, off, fl, cs, c, h1, h2, h3, h _ h4⟩
      · exact .inr ⟨cs, c, h1, h2, h _ h3⟩
    | some k =>
      rcases hK with ⟨r, off, fl, cs, h1, h2, h3, h4⟩ | ⟨cs, h1, h2, h3⟩
      · exact .inl ⟨r, off, fl, cs, h1, h2, h3, h _ h4⟩
      · exact .inr ⟨cs, h1, h2, h _ h3⟩
  case st =>
    obtain ⟨r, off, fl, cs, h1, h2, h3⟩ := hK
    refine ⟨r, off, fl, cs, h1, h2, ?_⟩
    rcases h3 with ⟨h3, h4, h5, h6⟩ | ⟨l, h3, h4, h5, h6, h7⟩
    · exact .inl ⟨h3, h4, h5, h _ h6⟩
    · exact .inr ⟨l, h3, h4, h5, h6, h _ h7⟩
  case mk => obtain ⟨r, kl, kc, n, m, h1, h2, h3, h4, h5, h6, h7, h8⟩ := hK; exact ⟨r, kl, kc, n, m, h1, h2, h3, h4, h5, h6, h7, h _ h8⟩
  case cut =>
    obtain ⟨l, hh, h1, h2⟩ := hK
    refine ⟨l, hh, h1, ?_⟩
    rcases h2 with ⟨r, off, n, h2, h3, h4, h5, h6⟩ | ⟨fr, cs, n, h2, h3, h4, h5, h6⟩ | ⟨h2, h3, h4, h5, h6⟩
    · exact .inl ⟨r, off, n, h2, h3, h4, h5, h _ h6⟩
    · exact .inr (.inl ⟨fr, cs, n, h2, h3, h4, h5, h _ h6⟩)
    · exact .inr (.inr ⟨h2, h3, h4, h5, h _ h6⟩)
  case appz => obtain ⟨r, kl, m, h1, h2, h3, h4, h5, h6, h7⟩ := hK; exact ⟨r, kl, m, h1, h2, h3, h4, h5, h6, h _ h7⟩
  case app =>
    rcases hK with ⟨q, r, n, m, fl, cs, ys, h1, h2, h3, h4, h5, h6, h7, h8, h9, h10⟩ | ⟨q, n, m, cs, ys, h1, h2, h3, h4, h5, h6, h7, h8⟩
    · exact .inl ⟨q, r, n, m, fl, cs, ys, h1, h2, h3, h4, h5, h6, h7, h8, h9, h _ h10⟩
    · exact .inr ⟨q, n, m, cs, ys, h1, h2, h3, h4, h5, h6, h7, h _ h8⟩
  case cut3 => obtain ⟨fr, cs, n, k, k', h1, h2, h3, h4⟩ := hK; exact ⟨fr, cs, n, k, k', h1, h2, h3, h _ h4⟩
  case call => exact acall_mono h hK
  case callv =>
    rcases hK with ⟨f, h1, h2, h3⟩ | ⟨f, l, k, h1, h2, h3⟩
    · exact .inl ⟨f, h1, h2, acall_mono h h3⟩
    · exact .inr ⟨f, l, k, h1, h2, acall_mono h h3⟩
  case mkf => exact h _ hK
  case pu => obtain ⟨r, h1, h2⟩ := hK; exact ⟨r, h1, h _ h2⟩
  case cpy => obtain ⟨r, off, n, fl, cs, m, ys, h1, h2, h3, h4, h5, h6, h7⟩ := hK; exact ⟨r, off, n, fl, cs, m, ys, h1, h2, h3, h4, h5, h6, h _ h7⟩
  case bts => obtain ⟨bs, h1, h2⟩ := hK; exact ⟨bs, h1, h _ h2⟩
  case rng => obtain ⟨r, b, h1, h2, h3⟩ := hK; exact ⟨r, b, h1, h2, h _ h3⟩
  case nxs => obtain ⟨r, b, p, h1, h2, h3, h4⟩ := hK; exact ⟨r, b, p, h1, h2, fun e => h _ (h3 e), fun e => h _ (h4 e)⟩
  case acut => obtain ⟨r, off, l, hh, fl, cs, h1, h2, h3, h4, h5, h6, h7, h8, h9⟩ := hK; exact ⟨r, off, l, hh, fl, cs, h1, h2, h3, h4, h5, h6, h7, h8, h _ h9⟩
  case ext => obtain ⟨l, c, h1, h2, h3⟩ := hK; exact ⟨l, c, h1, h2, h _ h3⟩
  case alloc => obtain ⟨r, fl, h1, h2⟩ := hK; exact ⟨r, fl, h1, h _ h2⟩
  case box =>
    obtain ⟨r, fl, h1, h2⟩ := hK
    refine ⟨r, fl, h1, ?_⟩
    rcases h2 with ⟨h2, h3, h4⟩ | ⟨l, h2, h3, h4⟩
    · exact .inl ⟨h2, h3, h _ h4⟩
    · exact .inr ⟨l, h2, h3, h _ h4⟩
  case bsl => obtain ⟨r, fl, out, h1, h2, h3⟩ := hK; exact ⟨r, fl, out, h1, h2, h _ h3⟩
  case mmk => obtain ⟨r, h1, h2⟩ := hK; exact ⟨r, h1, h _ h2⟩
  case mget => obtain ⟨r, es, clock, j, h1, h2, h3, h4, h5, h6⟩ := hK; exact ⟨r, es, clock, j, h1, h2, h3, h4, fun e he hk => h _ (h5 e he hk), fun hn => h _ (h6 hn)⟩
  case mput => obtain ⟨r, es, clock, j, v, h1, h2, h3, h4, h5, h6, h7⟩ := hK; exact ⟨r, es, clock, j, v, h1, h2, h3, h4, h5, fun n e he hk => h _ (h6 n e he hk), fun hn => h _ (h7 hn)⟩
  case mgetk => obtain ⟨h0, es, clock, kv, h1, h2, h3, h4, x, h5, h6, h7⟩ := hK; exact ⟨h0, es, clock, kv, h1, h2, h3, h4, x, h5, h6, h _ h7⟩
  case mputk => obtain ⟨h0, r, es, clock, kv, v, h1, h2, h3, h4, h5, h6, h7, h8⟩ := hK; exact ⟨h0, r, es, clock, kv, v, h1, h2, h3, h4, h5, h6, fun n e he hk => h _ (h7 n e he hk), fun hn => h _ (h8 hn)⟩
  case mrg =>
    obtain ⟨r, h1, h2⟩ := hK
    refine ⟨r, h1, ?_⟩
    rcases h2 with ⟨q, es, clock, h2, h3, h4, h5⟩ | ⟨fr, es, clock, h2, h5⟩
    · exact .inl ⟨q, es, clock, h2, h3, h4, fun bm => h _ (h5 bm)⟩
    · exact .inr ⟨fr, es, clock, h2, fun bm => h _ (h5 bm)⟩
  case mnx =>
    obtain ⟨r, m, bm, es0, ck0, since, seen, c0, es, clock, h1, h2, h3, h4, h5, h6, h7⟩ := hK
    exact ⟨r, m, bm, es0, ck0, since, seen, c0, es, clock, h1, h2, h3, h4, h5, fun e => h _ (h6 e), fun e he hs => h _ (h7 e he hs)⟩
  case ment =>
    obtain ⟨r, m, bm, es0, ck0, since, seen, es, clock, e, ka, va, h1, h2, h3, h4, h5, h6, h7, h8⟩ := hK
    exact ⟨r, m, bm, es0, ck0, since, seen, es, clock, e, ka, va, h1, h2, h3, h4, h5, h6, h7, h _ h8⟩
  case mdel =>
    obtain ⟨h0, r, es, clock, kv, h1, h2, h3, h4, h5, h6, h7⟩ := hK
    exact ⟨h0, r, es, clock, kv, h1, h2, h3, h4, h5, fun n e he hk => h _ (h6 n e he hk), fun hn => h _ (h7 hn)⟩
  case mnil => exact ⟨hK.1, h _ hK.2⟩
  case xcall => obtain ⟨fn, e, vs, v, h1, h2, h3, h4, h5, h6, h7, h8⟩ := hK; exact ⟨fn, e, vs, v, h1, h2, h3, h4, h5, h6, h7, h _ h8⟩
  case nchk =>
    rcases hK with ⟨r, off, h1, h2⟩ | ⟨cs, h1, h2⟩
    · exact .inl ⟨r, off, h1, h _ h2⟩
    · exact .inr ⟨cs, h1, h _ h2⟩
  case fa =>
    rcases hK with ⟨r, off, h1, h2⟩ | ⟨cs, h1, h2⟩
    · exact .inl ⟨r, off, h1, h _ h2⟩
    · exact .inr ⟨cs, h1, h _ h2⟩
theorem aop1_mono {ao : AOper} {K K' : AS → Prop} (h : ∀ s, K s → K' s) (hK : aop1 P own ao s K) : aop1 P own ao s K' := by
  unfold aop1 at *
  split at hK
  · exact aexec_mono h hK
  · rcases hK with ⟨b, h1, h2, h3⟩ | ⟨h1, h2⟩
    · exact .inl ⟨b, h1, fun e => aexec_mono h (h2 e), fun e => h _ (h3 e)⟩
    · exact .inr ⟨h1, h _ h2⟩
/-- The operations of the text that the list tells of. -/
inductive Comp (P : Program) (N : Nat) (ops : Array Oper) : List Nat → List AOper → Prop
  | nil : Comp P N ops [] []
  | cons {i : Nat} {is : List Nat} {o : Oper} {ao : AOper} {l : List AOper} (hi : ops[i]? = some o) (hc : cop P N ops o = some ao) (h : Comp P N ops is l) : Comp P N ops (i :: is) (ao :: l)
theorem comp_of_mapM (ops : Array Oper) : ∀ (l : List Oper) (k : Nat) (out : List AOper), (∀ (j : Nat), l[j]? = ops[k + j]?) → l.mapM (cop P N ops) = some out → Comp P N ops (List.range' k l.length) out
  | [], k, out, _, h => by
    simp at h
    subst h
    exact .nil
  | o :: l, k, out, hk, h => by
    rw [List.mapM_cons] at h
    simp only [Option.bind_eq_bind, Option.bind_eq_some_iff, Option.pure_def, Option.some.injEq] at h
    obtain ⟨ao, h1, out', h2, rfl⟩ := h
    have h0 := hk 0
    simp at h0
    exact .cons h0.symm h1 (comp_of_mapM ops l (k + 1) out' (fun j => by have := hk (j + 1); simpa [Nat.add_assoc, Nat.add_comm, Nat.add_left_comm] using this) h2)
theorem aops_sound {ops : Array Oper} {R : AS → Prop} (hQ : ∀ a w, After w0 mu N R a w → Q .normal a w) : ∀ {is : List Nat} {l : List AOper}, Comp P N ops is l → ∀ {s : AS} {a : Act} {w : World}, Simw w0 mu N s a w → aops P own l s R → wpOps P ops Q is a w := by
  intro is l hcomp
  induction hcomp with
  | nil => intro s a w hS hR; exact hQ _ _ ⟨s, hR, hS⟩
  | cons hi hc _ ih =>
    intro s a w hS hR
    rw [wpOps_cons]
    obtain ⟨s1, hwk, hR⟩ := hR
    refine op1_ok hi hc (hwk _ _ _ _ _ hS) (fun a w hA => ?_) hR
    obtain ⟨s', h1, h2⟩ := hA
    exact ih h2 h1
end Go.Am
namespace Go.Am
variable [Go.Am.CodeBlk]
variable {P : Program} {w0 w : World} {mu : Nat → Option Nat} {N : Nat} {s : AS} {a : Act} {K : AS → Prop} {Q : Exit → Act → World → Prop}
def Opd.tmps : Opd → List Nat
  | .t n => [n]
  | .c _ => []
/-- 0: reads and writes slots alone; 1: reads memory too; 2: writes memory alone; 3: all else. -/
def AOp.cls : AOp → Nat
  | .mov _ | .pick _ _ _ | .not _ | .neg _ | .bin _ _ _ | .beq _ _ _ | .len _ | .slen _ | .capn _ | .idx _ _ _ | .arr _ _ _ _ | .cut _ _ _ _ | .ext _ _ | .fa _ _ | .nchk _ | .pu _ _ | .mkf _ _ _ | .xcall _ _ => 0
  | .ld _ _ | .call _ _ | .callv _ _ | .mgetk _ _ _ _ _ => 1
  | .st _ _ _ => 2
  | _ => 3
def AOp.sees : AOp → List Nat
  | .mov x | .not x | .neg x | .len x | .slen x | .capn x | .isnil _ x | .ld _ x | .ext x _ | .box _ x | .fa _ x => x.tmps
  | .bin _ x y | .beq _ x y | .idx _ x y | .arr _ _ x y | .st _ x y | .mk _ _ _ x y | .app _ _ x y | .appz _ _ _ x y => x.tmps ++ y.tmps
  | .pick x y z => x.tmps ++ y.tmps ++ z.tmps
  | .cut _ x lo hi => x.tmps ++ (match lo with | some y => y.tmps | none => []) ++ (match hi with | some y => y.tmps | none => [])
  | .call _ args | .pu _ args | .mkf _ _ args | .xcall _ args => args.flatMap Opd.tmps
  | .callv x args => x.tmps ++ args.flatMap Opd.tmps
  | .cpy _ x y => x.tmps ++ y.tmps
  | .cut3 _ x y z => x.tmps ++ y.tmps ++ z.tmps
  | .bts x => x.tmps
  | .rng x => x.tmps
  | .mrg x | .mnx x | .ment x | .mnil _ x => x.tmps
  | .mdel _ x i => x.tmps ++ i.tmps
  | .nchk x => x.tmps
  | .mget _ _ _ x i | .mgetk _ _ _ x i => x.tmps ++ i.tmps
  | .mput _ x i y | .mputk _ x i y => x.tmps ++ i.tmps ++ y.tmps
  | .nxs x => x.tmps
  | .acut _ _ x lo hi => x.tmps ++ (match lo with | some y => y.tmps | none => []) ++ (match hi with | some y => y.tmps | none => [])
  | .dead => []
  | .bsl _ _ _ parts => parts.flatMap fun p => p.2.tmps
  | .nils _ | .alloc _ | .mmk => []
def AOper.sees (o : AOper) : List Nat := o.op.sees ++ (match o.g with | some (t, _) => [t] | none => [])
def AOper.indep (o p : AOper) : Bool :=
  (match o.d with | some d => !p.sees.contains d && p.d != some d | none => true) &&
  (match p.d with | some d => !o.sees.contains d | none => true) &&
  ((decide (o.op.cls ≤ 1) && decide (p.op.cls ≤ 1)) || (o.op.cls == 0 && p.op.cls == 2 && p.d.isNone) || (o.op.cls == 2 && p.op.cls == 0 && o.d.isNone))
theorem AOper.indep_spec {o p : AOper} (h : o.indep p = true) :
    (∀ d, o.d = some d → d ∉ p.sees) ∧ (∀ d, o.d = some d → p.d ≠ some d) ∧ (∀ d, p.d = some d → d ∉ o.sees) ∧
    ((o.op.cls ≤ 1 ∧ p.op.cls ≤ 1) ∨ (o.op.cls = 0 ∧ p.op.cls = 2 ∧ p.d = none) ∨ (o.op.cls = 2 ∧ p.op.cls = 0 ∧ o.d = none)) := by
  unfold AOper.indep at h
  simp only [Bool.and_eq_true, Bool.or_eq_true] at h
  obtain ⟨⟨h1, h2⟩, h3⟩ := h
  refine ⟨fun d hd => ?_, fun d hd => ?_, fun d hd => ?_, ?_⟩
  · rw [hd] at h1; simp at h1; exact h1.1
  · rw [hd] at h1; simp at h1; exact h1.2
  · rw [hd] at h2; simpa using h2
  · rcases h3 with (h3 | h3) | h3
    · exact .inl (by simpa using h3)
    · refine .inr (.inl ?_); simpa [and_assoc] using h3
    · refine .inr (.inr ?_); simpa [and_assoc] using h3
theorem ev_same {s s' : AS} {x : Opd} (h : ∀ t ∈ x.tmps, s'.tm t = s.tm t) : s'.ev x = s.ev x := by
  cases x with
  | t n => exact h n (by simp [Opd.tmps])
  | c v => rfl
theorem put_tm_ne {s : AS} {d : Option Nat} {x : AV} {t : Nat} (h : d ≠ some t) : (s.put d x).tm t = s.tm t := by
  cases d with
  | none => rfl
  | some d =>
    have : t ≠ d := fun e => h (by rw [e])
    simp [AS.put, this]
theorem put_hp (s : AS) (d : Option Nat) (x : AV) : (s.put d x).hp = s.hp := by cases d <;> rfl
theorem put_comm (s : AS) {d e : Option Nat} (x y : AV) (h : ∀ k, d = some k → e ≠ some k) : (s.put d x).put e y = (s.put e y).put d x := by
  cases d with
  | none => rfl
  | some d =>
    cases e with
    | none => rfl
    | some e =>
      have hne : d ≠ e := fun he => h d rfl (by rw [he])
      simp only [AS.put, AS.mk.injEq, and_true]
      funext t
      by_cases h1 : t = e
      · have : ¬ t = d := fun h2 => hne (h2.symm.trans h1)
        simp [h1]
        intro h3
        exact absurd h3.symm hne
      · simp [h1]
/-- What the light operations do. -/
def Light (P : Program) (o : AOper) (s : AS) (x : AV) : Prop :=
  ∀ (s' : AS) (K' : AS → Prop), (∀ t ∈ o.sees, s'.tm t = s.tm t) → (o.op.cls = 0 ∨ s'.hp = s.hp) → K' (s'.put o.d x) → aop1 P false o s' K'
theorem light_op {op : AOp} {d : Option Nat} (hc : op.cls ≤ 1) (hK : aexec P false op d s K) :
    ∃ x, (∀ (s' : AS) (K' : AS → Prop), (∀ t ∈ op.sees, s'.tm t = s.tm t) → (op.cls = 0 ∨ s'.hp = s.hp) → K' (s'.put d x) → aexec P false op d s' K') ∧ K (s.put d x) := by
  cases op <;> simp only [AOp.cls] at hc <;> simp only [aexec] at hK <;> simp only [AOp.sees, AOp.cls, true_or, forall_const]
  case mov x => exact ⟨_, fun s' K' h1 h2 => by simp only [aexec]; rw [ev_same h1]; exact h2, hK⟩
  case pick c x y =>
    obtain ⟨t, h1, h2, h3⟩ := hK
    cases t
    · refine ⟨_, fun s' K' g1 g2 => ⟨false, by rw [ev_same fun t ht => g1 t (by simp [ht])]; exact h1, by simp, fun _ => by rw [ev_same fun t ht => g1 t (by simp [ht])]; exact g2⟩, h3 rfl⟩
    · refine ⟨_, fun s' K' g1 g2 => ⟨true, by rw [ev_same fun t ht => g1 t (by simp [ht])]; exact h1, fun _ => by rw [ev_same fun t ht => g1 t (by simp [ht])]; exact g2, by simp⟩, h2 rfl⟩
  case not x => obtain ⟨t, h1, h2⟩ := hK; exact ⟨_, fun s' K' g1 g2 => ⟨t, by rw [ev_same g1]; exact h1, g2⟩, h2⟩
  case neg x => obtain ⟨k, n, h1, h2⟩ := hK; exact ⟨_, fun s' K' g1 g2 => ⟨k, n, by rw [ev_same g1]; exact h1, g2⟩, h2⟩
  case bin op x y =>
    obtain ⟨p, q, r, h1, h2, h3, h4⟩ := hK
    exact ⟨_, fun s' K' g1 g2 => ⟨p, q, r, by rw [ev_same fun t ht => g1 t (by simp [ht])]; exact h1, by rw [ev_same fun t ht => g1 t (by simp [ht])]; exact h2, h3, g2⟩, h4⟩
  case beq ne x y =>
    obtain ⟨p, q, h1, h2, h3⟩ := hK
    exact ⟨_, fun s' K' g1 g2 => ⟨p, q, by rw [ev_same fun t ht => g1 t (by simp [ht])]; exact h1, by rw [ev_same fun t ht => g1 t (by simp [ht])]; exact h2, g2⟩, h3⟩
  case len x =>
    rcases hK with ⟨r, z, off, n, h1, h2⟩ | ⟨fr, z, cs, n, h1, h2⟩ | ⟨ad, n, c, h1, h2⟩
    · exact ⟨_, fun s' K' g1 g2 => .inl ⟨r, z, off, n, by rw [ev_same g1]; exact h1, g2⟩, h2⟩
    · exact ⟨_, fun s' K' g1 g2 => .inr (.inl ⟨fr, z, cs, n, by rw [ev_same g1]; exact h1, g2⟩), h2⟩
    · exact ⟨_, fun s' K' g1 g2 => .inr (.inr ⟨ad, n, c, by rw [ev_same g1]; exact h1, g2⟩), h2⟩
  case slen x => obtain ⟨b, h1, h2⟩ := hK; exact ⟨_, fun s' K' g1 g2 => ⟨b, by rw [ev_same g1]; exact h1, g2⟩, h2⟩
  case capn x => obtain ⟨b, n, c, h1, h2⟩ := hK; exact ⟨_, fun s' K' g1 g2 => ⟨b, n, c, by rw [ev_same g1]; exact h1, g2⟩, h2⟩
  case idx z x i =>
    obtain ⟨k, j, h1, h2, h3⟩ := hK
    rcases h3 with ⟨r, off, n, h3, h4, h5⟩ | ⟨fr, cs, n, h3, h4, h5⟩ | ⟨v, L, h3, h4, h5, h6, h7⟩
    · exact ⟨_, fun s' K' g1 g2 => ⟨k, j, by rw [ev_same fun t ht => g1 t (by simp [ht])]; exact h1, h2, .inl ⟨r, off, n, by rw [ev_same fun t ht => g1 t (by simp [ht])]; exact h3, h4, g2⟩⟩, h5⟩
    · exact ⟨_, fun s' K' g1 g2 => ⟨k, j, by rw [ev_same fun t ht => g1 t (by simp [ht])]; exact h1, h2, .inr (.inl ⟨fr, cs, n, by rw [ev_same fun t ht => g1 t (by simp [ht])]; exact h3, h4, g2⟩)⟩, h5⟩
    · exact ⟨_, fun s' K' g1 g2 => ⟨k, j, by rw [ev_same fun t ht => g1 t (by simp [ht])]; exact h1, h2, .inr (.inr ⟨v, L, by rw [ev_same fun t ht => g1 t (by simp [ht])]; exact h3, h4, h5, h6, g2⟩)⟩, h7⟩
  case arr z n x i =>
    obtain ⟨k, j, h1, h2, h3, h4⟩ := hK
    rcases h4 with ⟨r, off, h4, h5⟩ | ⟨cs, h4, h5⟩
    · exact ⟨_, fun s' K' g1 g2 => ⟨k, j, by rw [ev_same fun t ht => g1 t (by simp [ht])]; exact h1, h2, h3, .inl ⟨r, off, by rw [ev_same fun t ht => g1 t (by simp [ht])]; exact h4, g2⟩⟩, h5⟩
    · exact ⟨_, fun s' K' g1 g2 => ⟨k, j, by rw [ev_same fun t ht => g1 t (by simp [ht])]; exact h1, h2, h3, .inr ⟨cs, by rw [ev_same fun t ht => g1 t (by simp [ht])]; exact h4, g2⟩⟩, h5⟩
  case ld k x =>
    cases k with
    | none =>
      rcases hK with ⟨r, off, fl, cs, c, h1, h2, h3, h4⟩ | ⟨cs, c, h1, h2, h3⟩
      · exact ⟨_, fun s' K' g1 g0 g2 => .inl ⟨r, off, fl, cs, c, by rw [ev_same g1]; exact h1, by rw [g0.resolve_left (by simp)]; exact h2, h3, g2⟩, h4⟩
      · exact ⟨_, fun s' K' g1 g0 g2 => .inr ⟨cs, c, by rw [ev_same g1]; exact h1, h2, g2⟩, h3⟩
    | some k =>
      rcases hK with ⟨r, off, fl, cs, h1, h2, h3, h4⟩ | ⟨cs, h1, h2, h3⟩
      · exact ⟨_, fun s' K' g1 g0 g2 => .inl ⟨r, off, fl, cs, by rw [ev_same g1]; exact h1, by rw [g0.resolve_left (by simp)]; exact h2, h3, g2⟩, h4⟩
      · exact ⟨_, fun s' K' g1 g0 g2 => .inr ⟨cs, by rw [ev_same g1]; exact h1, h2, g2⟩, h3⟩
  case cut z x lo hi =>
    obtain ⟨l, hh, h1, h2⟩ := hK
    have hb : ∀ (s' : AS) (y : Option Opd) (n m : Nat), (∀ t ∈ (match y with | some y => y.tmps | none => []), s'.tm t = s.tm t) → Bnd s y n m → Bnd s' y n m := by
      intro s' y n m hs hb
      cases y with
      | none => exact hb
      | some y =>
        obtain ⟨k, hk⟩ := hb
        exact ⟨k, by rw [ev_same hs]; exact hk⟩
    rcases h2 with ⟨r, off, n, h2, h3, h4, h5, h6⟩ | ⟨fr, cs, n, h2, h3, h4, h5, h6⟩ | ⟨h2, h3, h4, h5, h6⟩
    · exact ⟨_, fun s' K' g1 g2 => ⟨l, hh, hb s' lo _ _ (fun t ht => g1 t (by simp [ht])) h1, .inl ⟨r, off, n, by rw [ev_same fun t ht => g1 t (by simp [ht])]; exact h2, hb s' hi _ _ (fun t ht => g1 t (by simp [ht])) h3, h4, h5, g2⟩⟩, h6⟩
    · exact ⟨_, fun s' K' g1 g2 => ⟨l, hh, hb s' lo _ _ (fun t ht => g1 t (by simp [ht])) h1, .inr (.inl ⟨fr, cs, n, by rw [ev_same fun t ht => g1 t (by simp [ht])]; exact h2, hb s' hi _ _ (fun t ht => g1 t (by simp [ht])) h3, h4, h5, g2⟩)⟩, h6⟩
    · exact ⟨_, fun s' K' g1 g2 => ⟨l, hh, hb s' lo _ _ (fun t ht => g1 t (by simp [ht])) h1, .inr (.inr ⟨by rw [ev_same fun t ht => g1 t (by simp [ht])]; exact h2, h3, h4, hb s' hi _ _ (fun t ht => g1 t (by simp [ht])) h5, g2⟩)⟩, h6⟩
  case call f args =>
    by_cases h6 : ∃ res, SpR P f (args.map s.ev) res ∧ K (s.put d res)
    · obtain ⟨res, k1, k2⟩ := h6
      refine ⟨res, fun s' K' g1 g0 g2 => .inr (.inr (.inr (.inr (.inr ⟨res, ?_, g2⟩)))), k2⟩
      have : args.map s'.ev = args.map s.ev := List.map_congr_left fun x hx => ev_same fun t ht => g1 t (List.mem_flatMap.2 ⟨x, hx, ht⟩)
      rw [this]
      exact k1
    obtain ⟨asx, res, h1, h2, h3⟩ := hK.resolve_right (fun hh => by rcases hh with hh | hh | hh | hh | hh; cases hh.1; cases hh.1; cases hh.1; cases hh.1; exact h6 hh)
    rcases h3 with h3 | ⟨h0, _⟩
    · refine ⟨_, fun s' K' g1 g0 g2 => .inl ⟨asx, res, h1, ?_, .inl g2⟩, h3⟩
      have : args.map s'.ev = args.map s.ev := List.map_congr_left fun x hx => ev_same fun t ht => g1 t (List.mem_flatMap.2 ⟨x, hx, ht⟩)
      rw [this, g0.resolve_left (by simp)]
      exact h2
    · cases h0
  case callv x args =>
    rcases hK with ⟨f, hx, hcb, hK⟩ | ⟨f, l, k, hx, hcb, hK⟩
    · by_cases h6 : ∃ res, SpR P f (args.map s.ev) res ∧ K (s.put d res)
      · obtain ⟨res, k1, k2⟩ := h6
        refine ⟨res, fun s' K' g1 g0 g2 => .inl ⟨f, by rw [ev_same fun t ht => g1 t (by simp [ht])]; exact hx, hcb, .inr (.inr (.inr (.inr (.inr ⟨res, ?_, g2⟩))))⟩, k2⟩
        have : args.map s'.ev = args.map s.ev := List.map_congr_left fun x hx => ev_same fun t ht => g1 t (List.mem_append_right _ (List.mem_flatMap.2 ⟨x, hx, ht⟩))
        rw [this]
        exact k1
      obtain ⟨asx, res, h1, h2, h3⟩ := hK.resolve_right (fun hh => by rcases hh with hh | hh | hh | hh | hh; cases hh.1; cases hh.1; cases hh.1; cases hh.1; exact h6 hh)
      rcases h3 with h3 | ⟨h0, _⟩
      · refine ⟨_, fun s' K' g1 g0 g2 => .inl ⟨f, by rw [ev_same fun t ht => g1 t (by simp [ht])]; exact hx, hcb, .inl ⟨asx, res, h1, ?_, .inl g2⟩⟩, h3⟩
        have : args.map s'.ev = args.map s.ev := List.map_congr_left fun x hx => ev_same fun t ht => g1 t (List.mem_append_right _ (List.mem_flatMap.2 ⟨x, hx, ht⟩))
        rw [this, g0.resolve_left (by simp)]
        exact h2
      · cases h0
    · by_cases h6 : ∃ res, SpR P f (l.take k ++ args.map s.ev ++ l.drop k) res ∧ K (s.put d res)
      · obtain ⟨res, k1, k2⟩ := h6
        refine ⟨res, fun s' K' g1 g0 g2 => .inr ⟨f, l, k, by rw [ev_same fun t ht => g1 t (by simp [ht])]; exact hx, hcb, .inr (.inr (.inr (.inr (.inr ⟨res, ?_, g2⟩))))⟩, k2⟩
        have : args.map s'.ev = args.map s.ev := List.map_congr_left fun x hx => ev_same fun t ht => g1 t (List.mem_append_right _ (List.mem_flatMap.2 ⟨x, hx, ht⟩))
        rw [this]
        exact k1
      obtain ⟨asx, res, h1, h2, h3⟩ := hK.resolve_right (fun hh => by rcases hh with hh | hh | hh | hh | hh; cases hh.1; cases hh.1; cases hh.1; cases hh.1; exact h6 hh)
      rcases h3 with h3 | ⟨h0, _⟩
      · refine ⟨_, fun s' K' g1 g0 g2 => .inr ⟨f, l, k, by rw [ev_same fun t ht => g1 t (by simp [ht])]; exact hx, hcb, .inl ⟨asx, res, h1, ?_, .inl g2⟩⟩, h3⟩
        have : args.map s'.ev = args.map s.ev := List.map_congr_left fun x hx => ev_same fun t ht => g1 t (List.mem_append_right _ (List.mem_flatMap.2 ⟨x, hx, ht⟩))
        rw [this, g0.resolve_left (by simp)]
        exact h2
      · cases h0
  case mkf f k args =>
    refine ⟨_, fun s' K' g1 g2 => ?_, hK⟩
    have : args.map s'.ev = args.map s.ev := List.map_congr_left fun x hx => ev_same fun t ht => g1 t (List.mem_flatMap.2 ⟨x, hx, ht⟩)
    simp only [aexec]
    rw [this]
    exact g2
  case pu g args =>
    obtain ⟨r, h1, h2⟩ := hK
    refine ⟨_, fun s' K' g1 g2 => ⟨r, ?_, g2⟩, h2⟩
    have : args.map s'.ev = args.map s.ev := List.map_congr_left fun x hx => ev_same fun t ht => g1 t (List.mem_flatMap.2 ⟨x, hx, ht⟩)
    rw [this]
    exact h1
  case xcall f args =>
    obtain ⟨fn, e, vs, v, h1, h2, h3, h4, h5, h6, h7, h8⟩ := hK
    refine ⟨_, fun s' K' g1 g2 => ⟨fn, e, vs, v, h1, h2, h3, h4, h5, ?_, h7, g2⟩, h8⟩
    have : args.map s'.ev = args.map s.ev := List.map_congr_left fun x hx => ev_same fun t ht => g1 t (List.mem_flatMap.2 ⟨x, hx, ht⟩)
    rw [this]
    exact h6
  case mgetk kt z ok x i =>
    obtain ⟨h0, es, clock, kv, h1, h2, h3, h4, x, h5, h6, h7⟩ := hK
    refine ⟨x, fun s' K' g1 g0 g2 => ⟨h0, es, clock, kv, ?_, by rw [ev_same fun t ht => g1 t (by simp [ht])]; exact h2, h3, h4, x, h5, h6, g2⟩, h7⟩
    rw [ev_same fun t ht => g1 t (by simp [ht])]
    unfold MapAt at h1 ⊢
    rw [g0.resolve_left (by simp)]
    exact h1
  case ext x i => obtain ⟨l, c, h1, h2, h3⟩ := hK; exact ⟨_, fun s' K' g1 g2 => ⟨l, c, by rw [ev_same g1]; exact h1, h2, g2⟩, h3⟩
  case nchk x =>
    rcases hK with ⟨r, o', h1, h2⟩ | ⟨cs, h1, h2⟩
    · exact ⟨_, fun s' K' g1 g2 => .inl ⟨r, o', by rw [ev_same g1]; exact h1, g2⟩, h2⟩
    · exact ⟨_, fun s' K' g1 g2 => .inr ⟨cs, by rw [ev_same g1]; exact h1, g2⟩, h2⟩
  case fa off x =>
    rcases hK with ⟨r, o', h1, h2⟩ | ⟨cs, h1, h2⟩
    · exact ⟨_, fun s' K' g1 g2 => .inl ⟨r, o', by rw [ev_same g1]; exact h1, g2⟩, h2⟩
    · exact ⟨_, fun s' K' g1 g2 => .inr ⟨cs, by rw [ev_same g1]; exact h1, g2⟩, h2⟩
  all_goals (exact absurd hc (by decide))
theorem light1 {o : AOper} (hc : o.op.cls ≤ 1) (hK : aop1 P false o s K) : ∃ x, Light P o s x ∧ K (s.put o.d x) := by
  obtain ⟨d, op, g⟩ := o
  unfold aop1 at hK
  cases g with
  | none =>
    obtain ⟨x, h1, h2⟩ := light_op hc hK
    refine ⟨x, fun s' K' g1 g0 g2 => ?_, h2⟩
    unfold aop1
    exact h1 s' K' (fun t ht => g1 t (by simp [AOper.sees, ht])) g0 g2
  | some tw =>
    obtain ⟨t, wt⟩ := tw
    simp only at hK
    rcases hK with ⟨b, hb, h1, h2⟩ | ⟨hb, h2⟩
    · by_cases hbw : b = wt
      · obtain ⟨x, h3, h4⟩ := light_op hc (h1 hbw)
        refine ⟨x, fun s' K' g1 g0 g2 => ?_, h4⟩
        unfold aop1
        refine .inl ⟨b, by rw [g1 t (by simp [AOper.sees])]; exact hb, fun _ => h3 s' K' (fun t ht => g1 t (by simp [AOper.sees, ht])) g0 g2, fun e => ?_⟩
        rw [e] at hbw; cases wt <;> simp at hbw
      · have hbn : b = !wt := by cases b <;> cases wt <;> simp_all
        refine ⟨.v undef, fun s' K' g1 g0 g2 => ?_, h2 hbn⟩
        unfold aop1
        exact .inl ⟨b, by rw [g1 t (by simp [AOper.sees])]; exact hb, fun e => absurd e hbw, fun _ => g2⟩
    · refine ⟨.v undef, fun s' K' g1 g0 g2 => ?_, h2⟩
      unfold aop1
      exact .inr ⟨by rw [g1 t (by simp [AOper.sees])]; exact hb, g2⟩
def AS.upd (s : AS) (g : Option (Nat × (Bool × List AV))) : AS :=
  match g with
  | none => s
  | some (r, c) => s.mem r c
theorem upd_tm (s : AS) (g : Option (Nat × (Bool × List AV))) : (s.upd g).tm = s.tm := by cases g <;> rfl
theorem upd_put (s : AS) (g : Option (Nat × (Bool × List AV))) (d : Option Nat) (x : AV) : (s.upd g).put d x = (s.put d x).upd g := by
  cases g <;> cases d <;> rfl
def Stores (P : Program) (o : AOper) (s : AS) (g : Option (Nat × (Bool × List AV))) : Prop :=
  ∀ (s' : AS) (K' : AS → Prop), (∀ t ∈ o.sees, s'.tm t = s.tm t) → s'.hp = s.hp → K' (s'.upd g) → aop1 P false o s' K'
theorem store1 {o : AOper} (hc : o.op.cls = 2) (hd : o.d = none) (hK : aop1 P false o s K) : ∃ g, Stores P o s g ∧ K (s.upd g) := by
  obtain ⟨d, op, g⟩ := o
  simp only at hd
  subst hd
  have key : aexec P false op none s K → ∃ r c, (∀ (s' : AS) (K' : AS → Prop), (∀ t ∈ op.sees, s'.tm t = s.tm t) → s'.hp = s.hp → K' (s'.mem r c) → aexec P false op none s' K') ∧ K (s.mem r c) := by
    intro hK
    cases op <;> simp only [AOp.cls] at hc <;> first | (exact absurd hc (by decide)) | skip
    rename_i k x y _
    obtain ⟨r, off, fl, cs, h1, h2, h3⟩ := hK
    rcases h3 with ⟨h3, h4, h5, h6⟩ | ⟨l, h3, h4, h5, h6, h7⟩
    · refine ⟨_, _, fun s' K' g1 g0 g2 => ?_, h6⟩
      simp only [AOp.sees] at g1
      have e1 : s'.ev x = s.ev x := ev_same fun t ht => g1 t (by simp [ht])
      have e2 : s'.ev y = s.ev y := ev_same fun t ht => g1 t (by simp [ht])
      exact ⟨r, off, fl, cs, by rw [e1]; exact h1, by rw [g0]; exact h2, .inl ⟨h3, h4, by rw [e2]; exact h5, by rw [e2]; exact g2⟩⟩
    · refine ⟨_, _, fun s' K' g1 g0 g2 => ?_, h7⟩
      simp only [AOp.sees] at g1
      have e1 : s'.ev x = s.ev x := ev_same fun t ht => g1 t (by simp [ht])
      have e2 : s'.ev y = s.ev y := ev_same fun t ht => g1 t (by simp [ht])
      exact ⟨r, off, fl, cs, by rw [e1]; exact h1, by rw [g0]; exact h2, .inr ⟨l, by rw [e2]; exact h3, h4, h5, h6, g2⟩⟩
  unfold aop1 at hK
  cases g with
  | none =>
    obtain ⟨r, c, h1, h2⟩ := key hK
    refine ⟨some (r, c), fun s' K' g1 g0 g2 => ?_, h2⟩
    unfold aop1
    exact h1 s' K' (fun t ht => g1 t (by simp [AOper.sees, ht])) g0 g2
  | some tw =>
    obtain ⟨t, wt⟩ := tw
    simp only at hK
    rcases hK with ⟨b, hb, h1, h2⟩ | ⟨hb, h2⟩
    · by_cases hbw : b = wt
      · obtain ⟨r, c, h3, h4⟩ := key (h1 hbw)
        refine ⟨some (r, c), fun s' K' g1 g0 g2 => ?_, h4⟩
        unfold aop1
        refine .inl ⟨b, by rw [g1 t (by simp [AOper.sees])]; exact hb, fun _ => h3 s' K' (fun t ht => g1 t (by simp [AOper.sees, ht])) g0 g2, fun e => ?_⟩
        rw [e] at hbw; cases wt <;> simp at hbw
      · have hbn : b = !wt := by cases b <;> cases wt <;> simp_all
        refine ⟨none, fun s' K' g1 g0 g2 => ?_, h2 hbn⟩
        unfold aop1
        exact .inl ⟨b, by rw [g1 t (by simp [AOper.sees])]; exact hb, fun e => absurd e hbw, fun _ => g2⟩
    · refine ⟨none, fun s' K' g1 g0 g2 => ?_, h2⟩
      unfold aop1
      exact .inr ⟨by rw [g1 t (by simp [AOper.sees])]; exact hb, g2⟩
/-- Two operations that do not disturb each other change places. -/
theorem swap {o p : AOper} (h : o.indep p = true) (hK : aop1 P false o s fun s1 => aop1 P false p s1 K) : aop1 P false p s fun s2 => aop1 P false o s2 K := by
  obtain ⟨h1, h2, h3, h4⟩ := AOper.indep_spec h
  have hne : ∀ k, p.d = some k → o.d ≠ some k := fun k hk e => h2 k e hk
  rcases h4 with ⟨c1, c2⟩ | ⟨c1, c2, hd⟩ | ⟨c1, c2, hd⟩
  · obtain ⟨x, hx, hK⟩ := light1 c1 hK
    obtain ⟨y, hy, hK⟩ := light1 c2 hK
    refine hy s _ (fun t ht => (put_tm_ne fun e => h1 t e ht).symm) (.inr (put_hp _ _ _).symm) ?_
    refine hx _ _ (fun t ht => put_tm_ne fun e => h3 t e ht) (.inr (put_hp _ _ _)) ?_
    rw [put_comm _ _ _ hne]
    exact hK
  · obtain ⟨x, hx, hK⟩ := light1 (by omega) hK
    obtain ⟨g, hg, hK⟩ := store1 c2 hd hK
    refine hg s _ (fun t ht => (put_tm_ne fun e => h1 t e ht).symm) (put_hp _ _ _).symm ?_
    refine hx _ _ (fun t ht => by rw [upd_tm]) (.inl c1) ?_
    rw [upd_put]
    exact hK
  · obtain ⟨g, hg, hK⟩ := store1 c1 hd hK
    obtain ⟨y, hy, hK⟩ := light1 (by omega) hK
    refine hy s _ (fun t ht => by rw [upd_tm]) (.inl c2) ?_
    refine hg _ _ (fun t ht => put_tm_ne fun e => h3 t e ht) (put_hp _ _ _) ?_
    rw [← upd_put]
    exact hK
theorem acall_some {own : Bool} {f : FuncId} {xs : List AV} {d : Option Nat} (hK : acallA P own f xs d s K) : ∃ s', K s' := by
  unfold acallA at hK
  rcases hK with ⟨asx, res, h1, h2, h3⟩ | ⟨h0, r, z, n, cs, asx, res, cs', h1, h2, h3, h4, h5, h6, h7, h8⟩ | ⟨h0, asx, hin, ι, ok, res, hout, g, hp', h1, h2, ⟨i, hi⟩, h4⟩ | ⟨h0, asx, hin, res, hout, g, p, hp', h1, h2, h3, h4⟩ | ⟨h0, r, x, g, h1, h2, h3, h4, h5⟩ | ⟨res, h1, h2⟩
  · rcases h3 with h3 | ⟨h0, r, z, cs, n, h3, h4, h5⟩
    · exact ⟨_, h3⟩
    · rcases h5 with ⟨h5, h6⟩ | ⟨rest, h5, h6, h7⟩
      · exact ⟨_, h6⟩
      · exact ⟨_, h7⟩
  · exact ⟨_, h8⟩
  · exact ⟨_, (h4 i hi).2⟩
  · exact ⟨_, h4⟩
  · exact ⟨_, h5⟩
  · exact ⟨_, h2⟩
theorem aop1_some {o : AOper} {own : Bool} (hK : aop1 P own o s K) : ∃ s', K s' := by
  have key : aexec P own o.op o.d s K → ∃ s', K s' := by
    intro hK
    generalize o.op = op at hK
    cases op <;> simp only [aexec] at hK
    case mov => exact ⟨_, hK⟩
    case nils => rcases hK with h1 | ⟨r, h1, h2⟩; exact ⟨_, h1⟩; exact ⟨_, h2⟩
    case pick => obtain ⟨t, h1, h2, h3⟩ := hK; cases t; exact ⟨_, h3 rfl⟩; exact ⟨_, h2 rfl⟩
    case not => obtain ⟨t, h1, h2⟩ := hK; exact ⟨_, h2⟩
    case neg => obtain ⟨k, n, h1, h2⟩ := hK; exact ⟨_, h2⟩
    case bin => obtain ⟨p, q, r, h1, h2, h3, h4⟩ := hK; exact ⟨_, h4⟩
    case beq => obtain ⟨p, q, h1, h2, h3⟩ := hK; exact ⟨_, h3⟩
    case len =>
      rcases hK with ⟨r, z, off, n, h1, h2⟩ | ⟨fr, z, cs, n, h1, h2⟩ | ⟨ad, n, c, h1, h2⟩ <;> exact ⟨_, h2⟩
    case isnil =>
      rcases hK with ⟨c, h0, h1⟩ | ⟨n, h0, h1, h2⟩
      · exact ⟨_, h1⟩
      by_cases hn : n = 0
      · exact ⟨_, h2 hn true⟩
      · exact ⟨_, h1 (by omega)⟩
    case slen => obtain ⟨b, h1, h2⟩ := hK; exact ⟨_, h2⟩
    case capn => obtain ⟨b, n, c, h1, h2⟩ := hK; exact ⟨_, h2⟩
    case idx =>
      obtain ⟨k, j, h1, h2, h3⟩ := hK
      rcases h3 with ⟨r, off, n, h3, h4, h5⟩ | ⟨fr, cs, n, h3, h4, h5⟩ | ⟨v, L, h3, h4, h5, h6, h7⟩
      · exact ⟨_, h5⟩
      · exact ⟨_, h5⟩
      · exact ⟨_, h7⟩
    case arr =>
      obtain ⟨k, j, h1, h2, h3, h4⟩ := hK
      rcases h4 with ⟨r, off, h4, h5⟩ | ⟨cs, h4, h5⟩ <;> exact ⟨_, h5⟩
    case ld k x =>
      cases k with
      | none => rcases hK with ⟨r, off, fl, cs, c, h1, h2, h3, h4⟩ | ⟨cs, c, h1, h2, h3⟩; exact ⟨_, h4⟩; exact ⟨_, h3⟩
      | some k => rcases hK with ⟨r, off, fl, cs, h1, h2, h3, h4⟩ | ⟨cs, h1, h2, h3⟩; exact ⟨_, h4⟩; exact ⟨_, h3⟩
    case st =>
      obtain ⟨r, off, fl, cs, h1, h2, h3⟩ := hK
      rcases h3 with ⟨h3, h4, h5, h6⟩ | ⟨l, h3, h4, h5, h6, h7⟩; exact ⟨_, h6⟩; exact ⟨_, h7⟩
    case mk => obtain ⟨r, kl, kc, n, m, h1, h2, h3, h4, h5, h6, h7, h8⟩ := hK; exact ⟨_, h8⟩
    case cut =>
      obtain ⟨l, hh, h1, h2⟩ := hK
      rcases h2 with ⟨r, off, n, h2, h3, h4, h5, h6⟩ | ⟨fr, cs, n, h2, h3, h4, h5, h6⟩ | ⟨h2, h3, h4, h5, h6⟩ <;> exact ⟨_, h6⟩
    case appz => obtain ⟨r, kl, m, h1, h2, h3, h4, h5, h6, h7⟩ := hK; exact ⟨_, h7⟩
    case app => rcases hK with ⟨q, r, n, m, fl, cs, ys, h1, h2, h3, h4, h5, h6, h7, h8, h9, h10⟩ | ⟨q, n, m, cs, ys, h1, h2, h3, h4, h5, h6, h7, h8⟩; exact ⟨_, h10⟩; exact ⟨_, h8⟩
    case cut3 => obtain ⟨fr, cs, n, k, k', h1, h2, h3, h4⟩ := hK; exact ⟨_, h4⟩
    case call => exact acall_some hK
    case callv => rcases hK with ⟨f, _, _, h3⟩ | ⟨f, l, k, _, _, h3⟩ <;> exact acall_some h3
    case mkf => exact ⟨_, hK⟩
    case pu => obtain ⟨r, h1, h2⟩ := hK; exact ⟨_, h2⟩
    case cpy => obtain ⟨r, off, n, fl, cs, m, ys, h1, h2, h3, h4, h5, h6, h7⟩ := hK; exact ⟨_, h7⟩
    case bts => obtain ⟨bs, h1, h2⟩ := hK; exact ⟨_, h2⟩
    case rng => obtain ⟨r, b, h1, h2, h3⟩ := hK; exact ⟨_, h3⟩
    case nxs =>
      obtain ⟨r, b, p, h1, h2, h3, h4⟩ := hK
      by_cases hp : b.size ≤ p
      · exact ⟨_, h3 hp⟩
      · exact ⟨_, h4 (by omega)⟩
    case acut => obtain ⟨r, off, l, hh, fl, cs, h1, h2, h3, h4, h5, h6, h7, h8, h9⟩ := hK; exact ⟨_, h9⟩
    case ext => obtain ⟨l, c, h1, h2, h3⟩ := hK; exact ⟨_, h3⟩
    case alloc => obtain ⟨r, fl, h1, h2⟩ := hK; exact ⟨_, h2⟩
    case box =>
      obtain ⟨r, fl, h1, h2⟩ := hK
      rcases h2 with ⟨h2, h3, h4⟩ | ⟨l, h2, h3, h4⟩ <;> exact ⟨_, h4⟩
    case bsl => obtain ⟨r, fl, out, h1, h2, h3⟩ := hK; exact ⟨_, h3⟩
    case mmk => obtain ⟨r, h1, h2⟩ := hK; exact ⟨_, h2⟩
    case mget k z ok x i =>
      obtain ⟨r, es, clock, j, h1, h2, h3, h4, h5, h6⟩ := hK
      by_cases hh : ∀ e ∈ es.toList, e.key ≠ .int k j
      · exact ⟨_, h6 hh⟩
      · obtain ⟨e, he⟩ := Classical.not_forall.1 hh
        obtain ⟨he, hk⟩ := Classical.not_imp.1 he
        exact ⟨_, h5 e he (Classical.not_not.1 hk)⟩
    case mput k x i y =>
      obtain ⟨r, es, clock, j, v, h1, h2, h3, h4, h5, h6, h7⟩ := hK
      by_cases hh : ∀ e ∈ es.toList, e.key ≠ .int k j
      · exact ⟨_, h7 hh⟩
      · obtain ⟨e, he⟩ := Classical.not_forall.1 hh
        obtain ⟨he, hk⟩ := Classical.not_imp.1 he
        obtain ⟨n, hn⟩ := List.mem_iff_getElem?.1 he
        exact ⟨_, h6 n e hn (Classical.not_not.1 hk)⟩
    case mgetk => obtain ⟨_, es, clock, kv, h1, h2, h3, h4, x, h5, h6, h7⟩ := hK; exact ⟨_, h7⟩
    case mputk kt x i y =>
      obtain ⟨_, r, es, clock, kv, v, h1, h2, h3, h4, h5, h6, h7, h8⟩ := hK
      by_cases hh : ∀ e ∈ es.toList, e.key ≠ kv
      · exact ⟨_, h8 hh⟩
      · obtain ⟨e, he⟩ := Classical.not_forall.1 hh
        obtain ⟨he, hk⟩ := Classical.not_imp.1 he
        obtain ⟨n, hn⟩ := List.mem_iff_getElem?.1 he
        exact ⟨_, h7 n e hn (Classical.not_not.1 hk)⟩
    case mrg => rcases hK with ⟨r, _, ⟨q, es, clock, _, _, _, h⟩ | ⟨fr, es, clock, _, h⟩⟩ <;> exact ⟨_, h 0⟩
    case mnx =>
      obtain ⟨r, m, bm, es0, ck0, since, seen, c0, es, clock, h1, h2, h3, h4, h5, h6, h7⟩ := hK
      by_cases hh : ∀ e ∈ es.toList, seen.contains e.born = true
      · exact ⟨_, h6 hh⟩
      · obtain ⟨e, he⟩ := Classical.not_forall.1 hh
        obtain ⟨he, hk⟩ := Classical.not_imp.1 he
        exact ⟨_, h7 e he (by simpa using hk)⟩
    case ment => obtain ⟨r, m, bm, es0, ck0, since, seen, es, clock, e, ka, va, _, _, _, _, _, _, _, h⟩ := hK; exact ⟨_, h⟩
    case mdel kt x i =>
      obtain ⟨_, r, es, clock, kv, h1, h2, h3, h5, h6, h7, h8⟩ := hK
      by_cases hh : ∀ e ∈ es.toList, e.key ≠ kv
      · exact ⟨_, h8 hh⟩
      · obtain ⟨e, he⟩ := Classical.not_forall.1 hh
        obtain ⟨he, hk⟩ := Classical.not_imp.1 he
        obtain ⟨n, hn⟩ := List.mem_iff_getElem?.1 he
        exact ⟨_, h7 n e hn (Classical.not_not.1 hk)⟩
    case mnil => exact ⟨_, hK.2⟩
    case xcall => obtain ⟨fn, e, vs, v, h1, h2, h3, h4, h5, h6, h7, h8⟩ := hK; exact ⟨_, h8⟩
    case nchk => rcases hK with ⟨r, off, h1, h2⟩ | ⟨cs, h1, h2⟩ <;> exact ⟨_, h2⟩
    case fa => rcases hK with ⟨r, off, h1, h2⟩ | ⟨cs, h1, h2⟩ <;> exact ⟨_, h2⟩
  unfold aop1 at hK
  split at hK
  · exact key hK
  · rename_i t wt _
    rcases hK with ⟨b, h1, h2, h3⟩ | ⟨h1, h2⟩
    · by_cases hb : b = wt
      · exact key (h2 hb)
      · exact ⟨_, h3 (by cases b <;> cases wt <;> simp_all)⟩
    · exact ⟨_, h2⟩
/-- A call of a function that is lent regions of mine (the seat names such functions). -/
def AOper.lent (o : AOper) : Bool :=
  match o.op, o.g with
  | .call f _, none => ownF.contains f
  | .callv _ _, none => ownFV
  | _, _ => false
/-- A call whose result is appended to. -/
def AOper.owner0 (aos : List AOper) (o : AOper) : Bool :=
  match o.op, o.d, o.g with
  | .call f _, some d, none => aos.any fun p => match p.op with
    | .app _ _ (.t q) _ => q == d
    | .mov (.t q) => ownM.contains f && q == d
    | .callv _ args => ownFV && args.any fun a => match a with | .t q => q == d | .c _ => false
    | _ => false
  | _, _, _ => false
def AOper.owner (aos : List AOper) (o : AOper) : Bool := o.lent || o.owner0 aos
def AOper.isCall (o : AOper) : Bool :=
  match o.op, o.g with
  | .call _ _, none => true
  | _, _ => false
/-- A move (or what is made of numbers) may be taken ahead of a call that is lent regions. -/
def AOper.easy (o p : AOper) : Bool :=
  match o.op, o.d, o.g with
  | .mov x, some d, none => p.isCall && (p.lent || ownFV) && !p.sees.contains d && p.d != some d && (match p.d with | some e => !x.tmps.contains e | none => true)
  | .bin _ x y, some d, none => p.isCall && ownFV && !p.sees.contains d && p.d != some d && (match p.d with | some e => !x.tmps.contains e && !y.tmps.contains e | none => true)
  | _, _, _ => false
/-- A call whose result becomes a region of mine. -/
def aown (P : Program) (o : AOper) (s : AS) (K : AS → Prop) : Prop :=
  ∃ r f args asx z cs n, o = ⟨some r, .call f args, none⟩ ∧ Sp P f asx (.ro true z cs n) ∧ Lends s.hp (args.map s.ev) asx ∧ cs.all plainV = true ∧ K (((s.kill r).mem r (true, cs)).put (some r) (.sl r z 0 n))
theorem aown_aop1 {o : AOper} (h : aown P o s K) : aop1 P true o s K := by
  obtain ⟨r, f, args, asx, z, cs, n, rfl, h1, h2, h3, h4⟩ := h
  exact .inl ⟨asx, _, h1, h2, .inr ⟨rfl, r, z, cs, n, rfl, h3, .inl ⟨rfl, h4⟩⟩⟩
theorem aown_mono {o : AOper} {K K' : AS → Prop} (h : ∀ s, K s → K' s) (hK : aown P o s K) : aown P o s K' := by
  obtain ⟨r, f, args, asx, z, cs, n, h0, h1, h2, h3, h4⟩ := hK
  exact ⟨r, f, args, asx, z, cs, n, h0, h1, h2, h3, h _ h4⟩
theorem killV_v {r : Nat} : ∀ {x : AV} {y : Value}, killV r x = .v y → x = .v y
  | .v _, _, h => by simpa [killV] using h
  | .sl q _ _ _, _, h => by simp only [killV] at h; split at h <;> cases h
  | .pt q _, _, h => by simp only [killV] at h; split at h <;> cases h
  | .mp q, _, h => by simp only [killV] at h; split at h <;> cases h
  | .itr q, _, h => by simp only [killV] at h; split at h <;> cases h
  | .agg _, _, h => by simp only [killV] at h; cases h
  | .tup _, _, h => by simp only [killV] at h; cases h
  | .any, _, h => by simp only [killV] at h; cases h
  | .ro _ _ _ _, _, h => by simp only [killV] at h; cases h
  | .rp _, _, h => by simp only [killV] at h; cases h
  | .ob _, _, h => by simp only [killV] at h; cases h
  | .fn _ _ _, _, h => by simp only [killV] at h; cases h
  | .rmp _ _ _, _, h => by simp only [killV] at h; cases h
  | .fu _ _ _, _, h => by simp only [killV] at h; cases h
  | .mit q _ _ _ _, _, h => by simp only [killV] at h; split at h <;> cases h
theorem killV_ro {r : Nat} {fr : Bool} {z n : Nat} {cs : List AV} : ∀ {x : AV}, killV r x = .ro fr z cs n → x = .ro fr z cs n
  | .ro _ _ _ _, h => by simpa [killV] using h
  | .v _, h => by simp only [killV] at h; cases h
  | .sl q _ _ _, h => by simp only [killV] at h; split at h <;> cases h
  | .pt q _, h => by simp only [killV] at h; split at h <;> cases h
  | .mp q, h => by simp only [killV] at h; split at h <;> cases h
  | .itr q, h => by simp only [killV] at h; split at h <;> cases h
  | .agg _, h => by simp only [killV] at h; cases h
  | .tup _, h => by simp only [killV] at h; cases h
  | .any, h => by simp only [killV] at h; cases h
  | .rp _, h => by simp only [killV] at h; cases h
  | .ob _, h => by simp only [killV] at h; cases h
  | .fn _ _ _, h => by simp only [killV] at h; cases h
  | .rmp _ _ _, h => by simp only [killV] at h; cases h
  | .fu _ _ _, h => by simp only [killV] at h; cases h
  | .mit q _ _ _ _, h => by simp only [killV] at h; split at h <;> cases h
theorem killV_sl {r q z o n : Nat} : ∀ {x : AV}, killV r x = .sl q z o n → x = .sl q z o n ∧ q ≠ r
  | .sl q' _ _ _, h => by
    simp only [killV] at h
    split at h
    · cases h
    · rename_i hne; cases h; exact ⟨rfl, hne⟩
  | .v _, h => by simp only [killV] at h; cases h
  | .ro _ _ _ _, h => by simp only [killV] at h; cases h
  | .pt q _, h => by simp only [killV] at h; split at h <;> cases h
  | .mp q, h => by simp only [killV] at h; split at h <;> cases h
  | .itr q, h => by simp only [killV] at h; split at h <;> cases h
  | .agg _, h => by simp only [killV] at h; cases h
  | .tup _, h => by simp only [killV] at h; cases h
  | .any, h => by simp only [killV] at h; cases h
  | .rp _, h => by simp only [killV] at h; cases h
  | .ob _, h => by simp only [killV] at h; cases h
  | .fn _ _ _, h => by simp only [killV] at h; cases h
  | .rmp _ _ _, h => by simp only [killV] at h; cases h
  | .fu _ _ _, h => by simp only [killV] at h; cases h
  | .mit q _ _ _ _, h => by simp only [killV] at h; split at h <;> cases h
/-- Does the move or the cut p not disturb the call o? -/
def AOper.movs (o p : AOper) : Bool :=
  p.g.isNone && (match p.op with | .mov _ | .cut _ _ _ _ => true | _ => false) &&
  (match o.d with | some r => !p.sees.contains r && p.d != some r | none => false) && (match p.d with | some d => !o.sees.contains d | none => false)
theorem own_ev {r : Nat} {c : Bool × List AV} {v : AV} {x : Opd} (h : r ∉ x.tmps) : (((s.kill r).mem r c).put (some r) v).ev x = killV r (s.ev x) := by
  cases x with
  | t n =>
    have hn : n ≠ r := fun e => h (by simp [Opd.tmps, e])
    show (if n = r then v else killV r (s.tm n)) = _
    rw [if_neg hn]; rfl
  | c w => simp [AS.ev, killV]
theorem own_bnd {r : Nat} {c : Bool × List AV} {v : AV} {x : Option Opd} {l d : Nat} (h : ∀ y, x = some y → r ∉ y.tmps) (hb : Bnd (((s.kill r).mem r c).put (some r) v) x l d) : Bnd s x l d := by
  cases x with
  | none => exact hb
  | some y =>
    obtain ⟨k, hk⟩ := hb
    rw [own_ev (h y rfl)] at hk
    exact ⟨k, killV_v hk⟩
theorem own_state {r d : Nat} {c : Bool × List AV} {v x : AV} (h : d ≠ r) : (((s.put (some d) x).kill r).mem r c).put (some r) v = (((s.kill r).mem r c).put (some r) v).put (some d) (killV r x) := by
  unfold AS.put AS.mem AS.kill
  simp only [AS.mk.injEq, and_true]
  funext t
  by_cases h1 : t = r
  · subst h1
    rw [if_pos rfl, if_neg (Ne.symm h), if_pos rfl]
  · rw [if_neg h1]
    by_cases h2 : t = d
    · subst h2; rw [if_pos rfl, if_pos rfl]
    · rw [if_neg h2, if_neg h2, if_neg h1]
theorem swap_own {o p : AOper} (h : o.movs p = true) (hK : aown P o s fun s1 => aop1 P false p s1 K) : aop1 P false p s fun s2 => aown P o s2 K := by
  obtain ⟨r, f, args, asx, z, cs, n, rfl, h1, h2, h3, h4⟩ := hK
  obtain ⟨d, op, g⟩ := p
  unfold AOper.movs at h
  simp only [Bool.and_eq_true, Option.isNone_iff_eq_none] at h
  obtain ⟨⟨⟨hg, hop⟩, hd⟩, ha⟩ := h
  subst hg
  cases d with
  | none => simp at ha
  | some d =>
  have hdr : d ≠ r := fun e => by subst e; simp at hd
  have hsees : r ∉ (⟨some d, op, none⟩ : AOper).sees := by
    have := hd.1
    simpa using this
  have hargs : ∀ x ∈ args, d ∉ x.tmps := by
    intro x hx hm
    have : (⟨some r, .call f args, none⟩ : AOper).sees.contains d = true := by
      simp only [AOper.sees, AOp.sees, List.append_nil, List.contains_iff_mem, List.mem_flatMap]
      exact ⟨x, hx, hm⟩
    have ha2 : (!(⟨some r, .call f args, none⟩ : AOper).sees.contains d) = true := ha
    rw [this] at ha2
    cases ha2
  have fin : ∀ y : AV, K ((((s.kill r).mem r (true, cs)).put (some r) (.sl r z 0 n)).put (some d) (killV r y)) → aown P ⟨some r, .call f args, none⟩ (s.put (some d) y) K := by
    intro y hy
    refine ⟨r, f, args, asx, z, cs, n, rfl, h1, ?_, h3, ?_⟩
    · have e : args.map (s.put (some d) y).ev = args.map s.ev := List.map_congr_left fun x hx => ev_same fun t ht => put_tm_ne fun e => by cases e; exact hargs x hx ht
      rw [e, put_hp]
      exact h2
    · rw [own_state hdr]
      exact hy
  unfold aop1 at h4 ⊢
  cases op <;> simp at hop
  case mov x =>
    simp only [aexec] at h4 ⊢
    have hx : r ∉ x.tmps := by simpa [AOper.sees, AOp.sees] using hsees
    rw [own_ev hx] at h4
    exact fin _ h4
  case cut zz x lo hi =>
    simp only [aexec] at h4 ⊢
    simp only [AOper.sees, AOp.sees, List.append_nil, List.mem_append, not_or] at hsees
    obtain ⟨⟨hx, hlo⟩, hhi⟩ := hsees
    have hlo' : ∀ y, lo = some y → r ∉ y.tmps := fun y e => by subst e; exact hlo
    have hhi' : ∀ y, hi = some y → r ∉ y.tmps := fun y e => by subst e; exact hhi
    obtain ⟨l, hh, hbl, h5⟩ := h4
    rw [own_ev hx] at h5
    refine ⟨l, hh, own_bnd hlo' hbl, ?_⟩
    rcases h5 with ⟨q, off, m, h5, h6, h7, h8, h9⟩ | ⟨fr, cs', m, h5, h6, h7, h8, h9⟩ | ⟨h5, h6, h7, h8, h9⟩
    · obtain ⟨h10, h11⟩ := killV_sl h5
      refine .inl ⟨q, off, m, h10, own_bnd hhi' h6, h7, h8, fin _ ?_⟩
      simp only [killV]
      rw [if_neg h11]
      exact h9
    · refine .inr (.inl ⟨fr, cs', m, killV_ro h5, own_bnd hhi' h6, h7, h8, fin _ ?_⟩)
      simp only [killV]
      exact h9
    · refine .inr (.inr ⟨killV_v h5, h6, h7, own_bnd hhi' h8, fin _ ?_⟩)
      simp only [killV]
      exact h9
section
variable {ops : Array Oper} {aos : List AOper}
/-- Every order that the edges allow. -/
def aAny (P : Program) (ops : Array Oper) (aos : List AOper) (R : AS → Prop) : Nat → Array Bool → AS → Prop
  | 0, listed, s => Region.ready .any ops listed = [] ∧ R s
  | fuel + 1, listed, s =>
    (Region.ready .any ops listed = [] → R s) ∧
    ∀ i ∈ Region.ready .any ops listed, ∃ ao, aos[i]? = some ao ∧ aop1 P (ao.owner aos) ao s (aAny P ops aos R fuel (listed.setIfInBounds i true))
def Compiled (P : Program) (N : Nat) (ops : Array Oper) (aos : List AOper) : Prop :=
  ∀ (i : Nat) (o : Oper), ops[i]? = some o → ∃ ao, aos[i]? = some ao ∧ cop P N ops o = some ao
theorem aAny_sound {R : AS → Prop} (hc : Compiled P N ops aos) (hQ : ∀ a w, After w0 mu N R a w → Q .normal a w) : ∀ (fuel : Nat) (listed : Array Bool) (s : AS) (a : Act) (w : World),
    Simw w0 mu N s a w → aAny P ops aos R fuel listed s → wpAny P .any ops Q fuel listed a w := by
  intro fuel
  induction fuel with
  | zero => intro listed s a w hS h; exact ⟨h.1, hQ _ _ ⟨s, h.2, hS⟩⟩
  | succ fuel ih =>
    intro listed s a w hS h
    refine ⟨fun h0 => hQ _ _ ⟨s, h.1 h0, hS⟩, fun i hi => ?_⟩
    obtain ⟨ao, h1, h2⟩ := h.2 i hi
    obtain ⟨_, o, ho, _⟩ := mem_ready.1 hi
    obtain ⟨ao', h3, h4⟩ := hc i o ho
    rw [h1] at h3
    cases h3
    refine op1_ok ho h4 hS (fun a' w' hA => ?_) h2
    obtain ⟨s', h5, h6⟩ := hA
    exact ih _ s' a' w' h6 h5
theorem swap_easyM {own : Bool} {x : Opd} {d : Nat} {p : AOper} (h : (⟨some d, .mov x, none⟩ : AOper).easy p = true) (hK : aop1 P false ⟨some d, .mov x, none⟩ s fun s1 => aop1 P own p s1 K) : aop1 P own p s fun s2 => aop1 P false ⟨some d, .mov x, none⟩ s2 K := by
  obtain ⟨pd, pop, pg⟩ := p
  unfold AOper.easy at h
  simp only [Bool.and_eq_true, Bool.not_eq_true', bne_iff_ne, ne_eq] at h
  obtain ⟨⟨⟨⟨h1, hx0⟩, h2⟩, h3⟩, h4⟩ := h
  unfold AOper.isCall at h1
  simp only at h1
  split at h1
  rotate_left
  · cases h1
  rename_i f args
  have hsees : ∀ a ∈ args, d ∉ a.tmps := fun a ha ht => by
    have : (AOper.sees ⟨pd, .call f args, none⟩).contains d = true := by
      simp only [AOper.sees, AOp.sees, List.append_nil, List.contains_iff_mem, List.mem_flatMap]
      exact ⟨a, ha, ht⟩
    rw [this] at h2; cases h2
  have hargs : args.map (s.put (some d) (s.ev x)).ev = args.map s.ev := List.map_congr_left fun a ha => ev_same fun t ht => put_tm_ne fun e => by cases e; exact hsees a ha ht
  have hx : ∀ (e : Nat), pd = some e → e ∉ x.tmps := fun e he ht => by
    rw [he] at h4
    simp only [Bool.not_eq_true'] at h4
    have : x.tmps.contains e = true := by simpa using ht
    rw [this] at h4; cases h4
  have hxe : ∀ (s' : AS) (y : AV), s'.tm = s.tm → (s'.put pd y).ev x = s.ev x := fun s' y hs => ev_same fun t ht => by
    rw [put_tm_ne fun e => hx t e ht, hs]
  have hcomm : ∀ (s' : AS) (y : AV), (s'.put (some d) (s.ev x)).put pd y = (s'.put pd y).put (some d) (s.ev x) := fun s' y => put_comm _ _ _ fun k hk e => by cases hk; exact h3 e
  have hK' : acallA P own f (args.map (s.put (some d) (s.ev x)).ev) pd (s.put (some d) (s.ev x)) K := hK
  rw [hargs] at hK'
  show acallA P own f (args.map s.ev) pd s fun s2 => K (s2.put (some d) (s2.ev x))
  have hkill : ∀ (r : Nat) (c : Bool × List AV) (v : AV), pd = some r → (((s.kill r).mem r c).put (some r) v).ev x = killV r (s.ev x) := fun r c v hr => own_ev (hx r hr)
  have hst : ∀ (r : Nat) (c : Bool × List AV) (v : AV), pd = some r → ((((s.put (some d) (s.ev x)).kill r).mem r c).put (some r) v) = (((s.kill r).mem r c).put (some r) v).put (some d) (killV r (s.ev x)) := fun r c v hr => own_state fun e => by subst e; exact h3 hr
  rcases hK' with ⟨asx, res, k1, k2, k3⟩ | ⟨k0, r, z, n, cs, asx, res, cs', k1, k2, k3, k4, k5, k6, k7, k8⟩ | ⟨k0, asx, hin, ι, ok, res, hout, g, hp', k1, k2, k3, k4⟩ | ⟨k0, asx, hin, res, hout, g, p, hp', k1, k2, k3, k4⟩ | ⟨k0, r, z, g, k1, k2, k3, k4, k5⟩ | ⟨res, k1, k2⟩
  · refine .inl ⟨asx, res, k1, k2, ?_⟩
    rcases k3 with k3 | ⟨k0, r, z, cs, n, k4, k5, k6⟩
    · rw [hcomm] at k3
      exact .inl (by dsimp only; rw [hxe s res rfl]; exact k3)
    · refine .inr ⟨k0, r, z, cs, n, k4, k5, ?_⟩
      subst k4
      rcases k6 with ⟨k6, k7⟩ | ⟨rest, k6, k7, k8⟩
      · refine .inl ⟨k6, ?_⟩
        rw [hst r _ _ rfl] at k7
        dsimp only
        rw [hkill r _ _ rfl]
        exact k7
      · refine .inr ⟨rest, k6, k7, ?_⟩
        rw [hst r _ _ rfl] at k8
        dsimp only
        rw [hkill r _ _ rfl]
        exact k8
  · refine .inr (.inl ⟨k0, r, z, n, cs, asx, res, cs', k1, k2, k3, k4, k5, k6, k7, ?_⟩)
    have e : (((s.put (some d) (s.ev x)).mem r (true, cs')).put pd res) = (((s.mem r (true, cs')).put pd res).put (some d) (s.ev x)) := hcomm (s.mem r (true, cs')) res
    rw [e] at k8
    dsimp only
    rw [hxe (s.mem r (true, cs')) res rfl]
    exact k8
  · refine .inr (.inr (.inl ⟨k0, asx, hin, ι, ok, res, hout, g, hp', k1, k2, k3, fun i hi => ?_⟩))
    obtain ⟨k5, k6⟩ := k4 i hi
    refine ⟨⟨k5.has, k5.inj, k5.stay, k5.fresh, k5.new, k5.old, k5.ownI, k5.ownO, k5.ownR⟩, ?_⟩
    have e : AS.put ⟨(s.put (some d) (s.ev x)).tm, hp' i⟩ pd (renV g (res i)) = (AS.put ⟨s.tm, hp' i⟩ pd (renV g (res i))).put (some d) (s.ev x) := hcomm ⟨s.tm, hp' i⟩ (renV g (res i))
    rw [e] at k6
    dsimp only
    rw [hxe ⟨s.tm, hp' i⟩ (renV g (res i)) rfl]
    exact k6
  · refine .inr (.inr (.inr (.inl ⟨k0, asx, hin, res, hout, g, p, hp', k1, k2, ⟨k3.has, k3.gone, k3.own, k3.injI, k3.inj, k3.stay, k3.lt, k3.fresh, k3.new, k3.old, k3.ownI, k3.ownO, k3.ownR⟩, ?_⟩)))
    have e0 : AS.mk ((s.put (some d) (s.ev x)).drop p).tm hp' = (AS.mk (s.drop p).tm hp').put (some d) (dropV p (s.ev x)) := by
      simp only [AS.put, AS.drop, AS.mk.injEq, and_true]
      funext t
      by_cases e : t = d <;> simp [e]
    have e1 : (s.drop p).ev x = dropV p (s.ev x) := by cases x <;> simp [AS.ev, AS.drop, dropV]
    have e2 : (AS.put ⟨(s.drop p).tm, hp'⟩ pd (renV g res)).ev x = (s.drop p).ev x := ev_same fun t ht => put_tm_ne fun e => hx t e ht
    rw [e0, put_comm _ _ _ fun k hk e => by cases hk; exact h3 e] at k4
    dsimp only
    rw [e2, e1]
    exact k4
  · subst k2
    refine .inr (.inr (.inr (.inr (.inl ⟨k0, r, z, g, k1, rfl, k3, k4, ?_⟩))))
    rw [hst r _ _ rfl] at k5
    dsimp only
    rw [hkill r _ _ rfl]
    exact k5
  · refine .inr (.inr (.inr (.inr (.inr ⟨res, k1, ?_⟩))))
    rw [hcomm] at k2
    dsimp only
    rw [hxe s res rfl]
    exact k2
theorem swap_easyB {own : Bool} {op : BinOp} {x y : Opd} {d : Nat} {p : AOper} (h : (⟨some d, .bin op x y, none⟩ : AOper).easy p = true) (hK : aop1 P false ⟨some d, .bin op x y, none⟩ s fun s1 => aop1 P own p s1 K) : aop1 P own p s fun s2 => aop1 P false ⟨some d, .bin op x y, none⟩ s2 K := by
  obtain ⟨pd, pop, pg⟩ := p
  unfold AOper.easy at h
  simp only [Bool.and_eq_true, Bool.not_eq_true', bne_iff_ne, ne_eq] at h
  obtain ⟨⟨⟨⟨h1, hx0⟩, h2⟩, h3⟩, h4⟩ := h
  unfold AOper.isCall at h1
  simp only at h1
  split at h1
  rotate_left
  · cases h1
  rename_i f args
  have hsees : ∀ a ∈ args, d ∉ a.tmps := fun a ha ht => by
    have : (AOper.sees ⟨pd, .call f args, none⟩).contains d = true := by
      simp only [AOper.sees, AOp.sees, List.append_nil, List.contains_iff_mem, List.mem_flatMap]
      exact ⟨a, ha, ht⟩
    rw [this] at h2; cases h2
  obtain ⟨va, vb, vr, ha, hb, hr, hK⟩ := hK
  have hxy : ∀ (e : Nat), pd = some e → e ∉ x.tmps ∧ e ∉ y.tmps := fun e he => by
    rw [he] at h4
    simp only [Bool.and_eq_true, Bool.not_eq_true'] at h4
    refine ⟨fun ht => ?_, fun ht => ?_⟩
    · have : x.tmps.contains e = true := by simpa using ht
      rw [this] at h4; cases h4.1
    · have : y.tmps.contains e = true := by simpa using ht
      rw [this] at h4; cases h4.2
  have hargs : args.map (s.put (some d) (.v vr)).ev = args.map s.ev := List.map_congr_left fun a ha => ev_same fun t ht => put_tm_ne fun e => by cases e; exact hsees a ha ht
  have fin : ∀ s2 : AS, s2.ev x = .v va → s2.ev y = .v vb → K (s2.put (some d) (.v vr)) → aop1 P false ⟨some d, .bin op x y, none⟩ s2 K := fun s2 h1 h2 h3 => ⟨va, vb, vr, h1, h2, hr, h3⟩
  have hxe : ∀ (s' : AS) (z : AV), s'.tm = s.tm → (s'.put pd z).ev x = .v va ∧ (s'.put pd z).ev y = .v vb := fun s' z hs => by
    rw [← ha, ← hb]
    exact ⟨ev_same fun t ht => by rw [put_tm_ne fun e => (hxy t e).1 ht, hs], ev_same fun t ht => by rw [put_tm_ne fun e => (hxy t e).2 ht, hs]⟩
  have hcomm : ∀ (s' : AS) (z : AV), (s'.put (some d) (.v vr)).put pd z = (s'.put pd z).put (some d) (.v vr) := fun s' z => put_comm _ _ _ fun k hk e => by cases hk; exact h3 e
  have hK' : acallA P own f (args.map (s.put (some d) (.v vr)).ev) pd (s.put (some d) (.v vr)) K := hK
  rw [hargs] at hK'
  show acallA P own f (args.map s.ev) pd s fun s2 => aop1 P false ⟨some d, .bin op x y, none⟩ s2 K
  have hkill : ∀ (r : Nat) (c : Bool × List AV) (v : AV), pd = some r → (((s.kill r).mem r c).put (some r) v).ev x = .v va ∧ (((s.kill r).mem r c).put (some r) v).ev y = .v vb := fun r c v hr => by
    rw [own_ev (hxy r hr).1, own_ev (hxy r hr).2, ha, hb]
    simp [killV]
  have hst : ∀ (r : Nat) (c : Bool × List AV) (v : AV), pd = some r → ((((s.put (some d) (.v vr)).kill r).mem r c).put (some r) v) = (((s.kill r).mem r c).put (some r) v).put (some d) (.v vr) := fun r c v hr => by
    rw [own_state fun e => by subst e; exact h3 hr]
    simp [killV]
  rcases hK' with ⟨asx, res, k1, k2, k3⟩ | ⟨k0, r, z, n, cs, asx, res, cs', k1, k2, k3, k4, k5, k6, k7, k8⟩ | ⟨k0, asx, hin, ι, ok, res, hout, g, hp', k1, k2, k3, k4⟩ | ⟨k0, asx, hin, res, hout, g, p, hp', k1, k2, k3, k4⟩ | ⟨k0, r, z, g, k1, k2, k3, k4, k5⟩ | ⟨res, k1, k2⟩
  · refine .inl ⟨asx, res, k1, k2, ?_⟩
    rcases k3 with k3 | ⟨k0, r, z, cs, n, k4, k5, k6⟩
    · rw [hcomm] at k3
      exact .inl (fin _ (hxe s res rfl).1 (hxe s res rfl).2 k3)
    · refine .inr ⟨k0, r, z, cs, n, k4, k5, ?_⟩
      subst k4
      rcases k6 with ⟨k6, k7⟩ | ⟨rest, k6, k7, k8⟩
      · refine .inl ⟨k6, ?_⟩
        rw [hst r _ _ rfl] at k7
        exact fin _ (hkill r _ _ rfl).1 (hkill r _ _ rfl).2 k7
      · refine .inr ⟨rest, k6, k7, ?_⟩
        rw [hst r _ _ rfl] at k8
        exact fin _ (hkill r _ _ rfl).1 (hkill r _ _ rfl).2 k8
  · refine .inr (.inl ⟨k0, r, z, n, cs, asx, res, cs', k1, k2, k3, k4, k5, k6, k7, ?_⟩)
    have e : (((s.put (some d) (.v vr)).mem r (true, cs')).put pd res) = (((s.mem r (true, cs')).put pd res).put (some d) (.v vr)) := hcomm (s.mem r (true, cs')) res
    rw [e] at k8
    exact fin _ (hxe (s.mem r (true, cs')) res rfl).1 (hxe (s.mem r (true, cs')) res rfl).2 k8
  · refine .inr (.inr (.inl ⟨k0, asx, hin, ι, ok, res, hout, g, hp', k1, k2, k3, fun i hi => ?_⟩))
    obtain ⟨k5, k6⟩ := k4 i hi
    refine ⟨⟨k5.has, k5.inj, k5.stay, k5.fresh, k5.new, k5.old, k5.ownI, k5.ownO, k5.ownR⟩, ?_⟩
    have e : AS.put ⟨(s.put (some d) (.v vr)).tm, hp' i⟩ pd (renV g (res i)) = (AS.put ⟨s.tm, hp' i⟩ pd (renV g (res i))).put (some d) (.v vr) := hcomm ⟨s.tm, hp' i⟩ (renV g (res i))
    rw [e] at k6
    exact fin _ (hxe ⟨s.tm, hp' i⟩ (renV g (res i)) rfl).1 (hxe ⟨s.tm, hp' i⟩ (renV g (res i)) rfl).2 k6
  · refine .inr (.inr (.inr (.inl ⟨k0, asx, hin, res, hout, g, p, hp', k1, k2, ⟨k3.has, k3.gone, k3.own, k3.injI, k3.inj, k3.stay, k3.lt, k3.fresh, k3.new, k3.old, k3.ownI, k3.ownO, k3.ownR⟩, ?_⟩)))
    have e0 : AS.mk ((s.put (some d) (.v vr)).drop p).tm hp' = (AS.mk (s.drop p).tm hp').put (some d) (.v vr) := by
      simp only [AS.put, AS.drop, AS.mk.injEq, and_true]
      funext t
      by_cases e : t = d <;> simp [e, dropV]
    have e1 : ∀ z : Opd, (s.drop p).ev z = dropV p (s.ev z) := fun z => by cases z <;> simp [AS.ev, AS.drop, dropV]
    have e2 : (AS.put ⟨(s.drop p).tm, hp'⟩ pd (renV g res)).ev x = (s.drop p).ev x := ev_same fun t ht => put_tm_ne fun e => (hxy t e).1 ht
    have e3 : (AS.put ⟨(s.drop p).tm, hp'⟩ pd (renV g res)).ev y = (s.drop p).ev y := ev_same fun t ht => put_tm_ne fun e => (hxy t e).2 ht
    rw [e0, put_comm _ _ _ fun k hk e => by cases hk; exact h3 e] at k4
    exact fin _ (by rw [e2, e1, ha]; simp [dropV]) (by rw [e3, e1, hb]; simp [dropV]) k4
  · subst k2
    refine .inr (.inr (.inr (.inr (.inl ⟨k0, r, z, g, k1, rfl, k3, k4, ?_⟩))))
    rw [hst r _ _ rfl] at k5
    exact fin _ (hkill r _ _ rfl).1 (hkill r _ _ rfl).2 k5
  · refine .inr (.inr (.inr (.inr (.inr ⟨res, k1, ?_⟩))))
    rw [hcomm] at k2
    exact fin _ (hxe s res rfl).1 (hxe s res rfl).2 k2
theorem swap_easy {own : Bool} {o p : AOper} (h : o.easy p = true) (hK : aop1 P false o s fun s1 => aop1 P own p s1 K) : aop1 P own p s fun s2 => aop1 P false o s2 K := by
  obtain ⟨od, oop, og⟩ := o
  cases oop <;> first | (simp [AOper.easy] at h; done) | skip
  · cases od <;> cases og <;> first | (simp [AOper.easy] at h; done) | exact swap_easyM h hK
  · cases od <;> cases og <;> first | (simp [AOper.easy] at h; done) | exact swap_easyB h hK
/-- Does o leave p alone, and p o? -/
def AOper.pass (aos : List AOper) (o p : AOper) : Bool := (o.indep p && !p.owner aos) || o.easy p
theorem swap_pass {o p : AOper} (h : o.pass aos p = true) (hK : aop1 P false o s fun s1 => aop1 P (p.owner aos) p s1 K) : aop1 P (p.owner aos) p s fun s2 => aop1 P false o s2 K := by
  unfold AOper.pass at h
  simp only [Bool.or_eq_true, Bool.and_eq_true, Bool.not_eq_true'] at h
  rcases h with ⟨h1, h2⟩ | h
  · rw [h2] at hK ⊢
    exact swap h1 hK
  · exact swap_easy h hK
/-- i may be taken first: whatever is still to come comes behind it or is not disturbed. -/
def freeAt (ops : Array Oper) (aos : List AOper) (listed : Array Bool) (i : Nat) : Bool :=
  match aos[i]? with
  | none => false
  | some oi => !oi.owner aos && (List.range ops.size).all fun j => j == i || listed.getD j true ||
    (match ops[j]?, aos[j]? with
     | some oj, some aj => oj.after.any (fun e => Region.binds .any e && e.on == i) || oi.pass aos aj
     | _, _ => false)
theorem freeAt_spec {i : Nat} {oi : AOper} {listed : Array Bool} (hi : aos[i]? = some oi) (h : freeAt ops aos listed i = true) (j : Nat) (oj : Oper) (aj : AOper)
    (hj : ops[j]? = some oj) (haj : aos[j]? = some aj) (hne : j ≠ i) (hun : listed.getD j true = false) (hno : ∀ e ∈ oj.after, Region.binds .any e = true → e.on ≠ i) : oi.pass aos aj = true := by
  simp only [freeAt, hi, Bool.and_eq_true, List.all_eq_true, List.mem_range] at h
  have h1 := h.2 j (Array.getElem?_eq_some_iff.1 hj).1
  simp only [hj, haj, Bool.or_eq_true, Bool.and_eq_true, Bool.not_eq_true', beq_iff_eq, hne, false_or, hun, Bool.false_eq_true] at h1
  rcases h1 with h1 | h1
  · obtain ⟨e, he, hb⟩ := Array.any_eq_true'.1 h1
    simp only [Bool.and_eq_true, beq_iff_eq] at hb
    exact absurd hb.2 (hno e he hb.1)
  · exact h1
theorem freeAt_own {i : Nat} {oi : AOper} {listed : Array Bool} (hi : aos[i]? = some oi) (h : freeAt ops aos listed i = true) : oi.owner aos = false := by
  simp only [freeAt, hi, Bool.and_eq_true, Bool.not_eq_true'] at h
  exact h.1
theorem freeAt_less {i j : Nat} {listed : Array Bool} (h : freeAt ops aos listed i = true) : freeAt ops aos (listed.setIfInBounds j true) i = true := by
  unfold freeAt at *
  cases hi : aos[i]? with
  | none => rw [hi] at h; exact h
  | some oi =>
    rw [hi] at h
    simp only [Bool.and_eq_true, List.all_eq_true, List.mem_range] at h ⊢
    refine ⟨h.1, ?_⟩
    intro k hk
    have h1 := h.2 k hk
    simp only [Bool.or_eq_true] at h1 ⊢
    rcases h1 with (h1 | h1) | h1
    · exact .inl (.inl h1)
    · refine .inl (.inr ?_)
      by_cases hjk : j = k
      · subst hjk
        rcases Nat.lt_or_ge j listed.size with h' | h'
        · simp [h']
        · simp [h']
      · rw [getD_set_ne true hjk]; exact h1
    · exact .inr h1
theorem aAny_take {R : AS → Prop} (hc : Compiled P N ops aos) {i : Nat} {oi : AOper} (hi : aos[i]? = some oi) : ∀ (fuel : Nat) (listed : Array Bool) (s : AS), freeAt ops aos listed i = true →
    i ∈ Region.ready .any ops listed → aop1 P false oi s (aAny P ops aos R fuel (listed.setIfInBounds i true)) → aAny P ops aos R (fuel + 1) listed s := by
  intro fuel
  induction fuel with
  | zero =>
    intro listed s hfree hr H
    have hno := freeAt_own hi hfree
    refine ⟨fun h => (by rw [h] at hr; cases hr), fun j hj => ?_⟩
    by_cases hji : j = i
    · subst hji; exact ⟨oi, hi, by rw [hno]; exact H⟩
    · have := ready_mono hj hji
      obtain ⟨s', h1⟩ := aop1_some H
      rw [h1.1] at this
      cases this
  | succ fuel ih =>
    intro listed s hfree hr H
    have hno := freeAt_own hi hfree
    refine ⟨fun h => (by rw [h] at hr; cases hr), fun j hj => ?_⟩
    by_cases hji : j = i
    · subst hji; exact ⟨oi, hi, by rw [hno]; exact H⟩
    · obtain ⟨hjun, oj, hoj, hall⟩ := mem_ready.1 hj
      obtain ⟨aj, haj, _⟩ := hc j oj hoj
      have hnot : ∀ e ∈ oj.after, Region.binds .any e = true → e.on ≠ i := fun e he hb heq => by
        have h1 := hall e he hb
        have h0 := (mem_ready.1 hr).1
        rw [heq] at h1
        rcases Nat.lt_or_ge i listed.size with h' | h'
        · simp [h'] at h0 h1; rw [h0] at h1; cases h1
        · simp [Array.getElem?_eq_none h'] at h1
      have hind := freeAt_spec hi hfree j oj aj hoj haj hji hjun hnot
      refine ⟨aj, haj, ?_⟩
      have h1 : aop1 P false oi s fun s1 => aop1 P (aj.owner aos) aj s1 (aAny P ops aos R fuel ((listed.setIfInBounds i true).setIfInBounds j true)) := by
        refine aop1_mono (fun s1 h => ?_) H
        obtain ⟨ao, g1, g2⟩ := h.2 j (ready_mono hj hji)
        rw [haj] at g1
        cases g1
        exact g2
      refine aop1_mono (fun s2 h => ?_) (swap_pass hind h1)
      refine ih (listed.setIfInBounds j true) s2 (freeAt_less hfree) (ready_mono hr (Ne.symm hji)) ?_
      rw [Array.setIfInBounds_comm _ _ hji]
      exact h
/-- j comes behind i: by an edge, or by edges over others. -/
def behindN (ops : Array Oper) (i : Nat) : Nat → Nat → Bool
  | 0, _ => false
  | n + 1, j => match ops[j]? with
    | none => false
    | some oj => oj.after.any fun e => Region.binds .any e && (e.on == i || behindN ops i n e.on)
theorem behindN_edge {i n j : Nat} (h : behindN ops i (n + 1) j = true) : ∃ oj e, ops[j]? = some oj ∧ e ∈ oj.after ∧ Region.binds .any e = true ∧ (e.on = i ∨ behindN ops i n e.on = true) := by
  unfold behindN at h
  split at h
  · cases h
  · rename_i oj hoj
    obtain ⟨e, he, hb⟩ := Array.any_eq_true'.1 h
    simp only [Bool.and_eq_true, Bool.or_eq_true, beq_iff_eq] at hb
    exact ⟨oj, e, hoj, he, hb.1, hb.2⟩
theorem behindN_mono {i : Nat} : ∀ {n j : Nat}, behindN ops i n j = true → behindN ops i (n + 1) j = true := by
  intro n
  induction n with
  | zero => intro j h; simp [behindN] at h
  | succ n ih =>
    intro j h
    obtain ⟨oj, e, h1, h2, h3, h4⟩ := behindN_edge h
    unfold behindN
    rw [h1]
    refine Array.any_eq_true'.2 ⟨e, h2, ?_⟩
    simp only [Bool.and_eq_true, Bool.or_eq_true, beq_iff_eq]
    exact ⟨h3, h4.imp id ih⟩
/-- i may be taken first: what comes behind it is still to come, all else is not disturbed. -/
def freeAt2 (ops : Array Oper) (aos : List AOper) (listed : Array Bool) (i : Nat) : Bool :=
  match aos[i]? with
  | none => false
  | some oi => !oi.owner aos && (List.range ops.size).all fun j => j == i || (if behindN ops i 8 j then !listed.getD j true else listed.getD j true || (match aos[j]? with | some aj => oi.pass aos aj | none => false))
theorem freeAt2_spec {i : Nat} {oi : AOper} {listed : Array Bool} (hi : aos[i]? = some oi) (h : freeAt2 ops aos listed i = true) (j : Nat) (hj : j < ops.size) (hne : j ≠ i) :
    (behindN ops i 8 j = true ∧ listed.getD j true = false) ∨ (behindN ops i 8 j = false ∧ (listed.getD j true = true ∨ ∀ aj, aos[j]? = some aj → oi.pass aos aj = true)) := by
  simp only [freeAt2, hi, Bool.and_eq_true, List.all_eq_true, List.mem_range] at h
  have h1 := h.2 j hj
  simp only [Bool.or_eq_true, beq_iff_eq, hne, false_or] at h1
  split at h1
  · rename_i hb; exact .inl ⟨hb, by simpa using h1⟩
  · rename_i hb
    refine .inr ⟨by simpa using hb, ?_⟩
    rcases (by simpa only [Bool.or_eq_true] using h1 : _ ∨ _) with h2 | h2
    · exact .inl h2
    · refine .inr fun aj haj => ?_
      rw [haj] at h2
      exact h2
theorem freeAt2_own {i : Nat} {oi : AOper} {listed : Array Bool} (hi : aos[i]? = some oi) (h : freeAt2 ops aos listed i = true) : oi.owner aos = false := by
  simp only [freeAt2, hi, Bool.and_eq_true, Bool.not_eq_true'] at h
  exact h.1
theorem freeAt2_less {i j : Nat} {listed : Array Bool} (h : freeAt2 ops aos listed i = true) (hnb : behindN ops i 8 j = false) : freeAt2 ops aos (listed.setIfInBounds j true) i = true := by
  unfold freeAt2 at *
  cases hi : aos[i]? with
  | none => rw [hi] at h; exact h
  | some oi =>
    rw [hi] at h
    simp only [Bool.and_eq_true, List.all_eq_true, List.mem_range] at h ⊢
    refine ⟨h.1, ?_⟩
    intro k hk
    have h1 := h.2 k hk
    simp only [Bool.or_eq_true] at h1 ⊢
    rcases h1 with h1 | h1
    · exact .inl h1
    · refine .inr ?_
      by_cases hjk : j = k
      · subst hjk
        rw [if_neg (by rw [hnb]; simp)]
        rcases Nat.lt_or_ge j listed.size with h' | h'
        · simp [h']
        · simp [h']
      · rw [getD_set_ne true hjk]; exact h1
theorem aAny_take2 {R : AS → Prop} (hc : Compiled P N ops aos) {i : Nat} {oi : AOper} (hi : aos[i]? = some oi) : ∀ (fuel : Nat) (listed : Array Bool) (s : AS), freeAt2 ops aos listed i = true →
    i ∈ Region.ready .any ops listed → aop1 P false oi s (aAny P ops aos R fuel (listed.setIfInBounds i true)) → aAny P ops aos R (fuel + 1) listed s := by
  intro fuel
  induction fuel with
  | zero =>
    intro listed s hfree hr H
    have hno := freeAt2_own hi hfree
    refine ⟨fun h => (by rw [h] at hr; cases hr), fun j hj => ?_⟩
    by_cases hji : j = i
    · subst hji; exact ⟨oi, hi, by rw [hno]; exact H⟩
    · have := ready_mono hj hji
      obtain ⟨s', h1⟩ := aop1_some H
      rw [h1.1] at this
      cases this
  | succ fuel ih =>
    intro listed s hfree hr H
    have hno := freeAt2_own hi hfree
    refine ⟨fun h => (by rw [h] at hr; cases hr), fun j hj => ?_⟩
    by_cases hji : j = i
    · subst hji; exact ⟨oi, hi, by rw [hno]; exact H⟩
    · obtain ⟨hjun, oj, hoj, hall⟩ := mem_ready.1 hj
      obtain ⟨aj, haj, _⟩ := hc j oj hoj
      have hli : ∀ k, k = i → ¬ listed.getD k false = true := fun k hk h1 => by
        subst hk
        have h0 := (mem_ready.1 hr).1
        rcases Nat.lt_or_ge k listed.size with h' | h'
        · simp [h'] at h0 h1; rw [h0] at h1; cases h1
        · simp [Array.getElem?_eq_none h'] at h1
      have hnb : behindN ops i 8 j = false := by
        cases hb : behindN ops i 8 j with
        | false => rfl
        | true =>
          exfalso
          obtain ⟨oj', e, h1, h2, h3, h4⟩ := behindN_edge hb
          rw [hoj] at h1
          cases h1
          have h5 := hall e h2 h3
          rcases h4 with h4 | h4
          · exact hli e.on h4 h5
          · by_cases he : e.on = i
            · exact hli e.on he h5
            · have h6 := behindN_mono h4
              obtain ⟨ok, _, h7, _⟩ := behindN_edge h6
              rcases freeAt2_spec hi hfree e.on (Array.getElem?_eq_some_iff.1 h7).1 he with ⟨_, h8⟩ | ⟨h8, _⟩
              · rcases Nat.lt_or_ge e.on listed.size with h' | h'
                · simp [h'] at h5 h8; rw [h5] at h8; cases h8
                · simp [Array.getElem?_eq_none h'] at h5
              · rw [h6] at h8; cases h8
      have hind : oi.pass aos aj = true := by
        rcases freeAt2_spec hi hfree j (Array.getElem?_eq_some_iff.1 hoj).1 hji with ⟨h8, _⟩ | ⟨_, h8 | h8⟩
        · rw [hnb] at h8; cases h8
        · rw [hjun] at h8; cases h8
        · exact h8 aj haj
      refine ⟨aj, haj, ?_⟩
      have h1 : aop1 P false oi s fun s1 => aop1 P (aj.owner aos) aj s1 (aAny P ops aos R fuel ((listed.setIfInBounds i true).setIfInBounds j true)) := by
        refine aop1_mono (fun s1 h => ?_) H
        obtain ⟨ao, g1, g2⟩ := h.2 j (ready_mono hj hji)
        rw [haj] at g1
        cases g1
        exact g2
      refine aop1_mono (fun s2 h => ?_) (swap_pass hind h1)
      refine ih (listed.setIfInBounds j true) s2 (freeAt2_less hfree hnb) (ready_mono hr (Ne.symm hji)) ?_
      rw [Array.setIfInBounds_comm _ _ hji]
      exact h
/-- A call whose result is appended to may be taken first: what comes behind it is still to come, all else are moves and cuts that do not disturb it. -/
def freeAt3 (ops : Array Oper) (aos : List AOper) (listed : Array Bool) (i : Nat) : Bool :=
  match aos[i]? with
  | none => false
  | some oi => (oi.owner aos && !oi.lent) && (List.range ops.size).all fun j => j == i || (if behindN ops i 8 j then !listed.getD j true else listed.getD j true || (match aos[j]? with | some aj => oi.movs aj && !aj.owner aos | none => false))
theorem freeAt3_spec {i : Nat} {oi : AOper} {listed : Array Bool} (hi : aos[i]? = some oi) (h : freeAt3 ops aos listed i = true) (j : Nat) (hj : j < ops.size) (hne : j ≠ i) :
    (behindN ops i 8 j = true ∧ listed.getD j true = false) ∨ (behindN ops i 8 j = false ∧ (listed.getD j true = true ∨ ∀ aj, aos[j]? = some aj → oi.movs aj = true ∧ aj.owner aos = false)) := by
  simp only [freeAt3, hi, Bool.and_eq_true, List.all_eq_true, List.mem_range] at h
  have h1 := h.2 j hj
  simp only [Bool.or_eq_true, beq_iff_eq, hne, false_or] at h1
  split at h1
  · rename_i hb; exact .inl ⟨hb, by simpa using h1⟩
  · rename_i hb
    refine .inr ⟨by simpa using hb, ?_⟩
    rcases (by simpa only [Bool.or_eq_true] using h1 : _ ∨ _) with h2 | h2
    · exact .inl h2
    · refine .inr fun aj haj => ?_
      rw [haj] at h2
      simpa using h2
theorem freeAt3_own {i : Nat} {oi : AOper} {listed : Array Bool} (hi : aos[i]? = some oi) (h : freeAt3 ops aos listed i = true) : oi.owner aos = true := by
  simp only [freeAt3, hi, Bool.and_eq_true] at h
  exact h.1.1
theorem freeAt3_less {i j : Nat} {listed : Array Bool} (h : freeAt3 ops aos listed i = true) (hnb : behindN ops i 8 j = false) : freeAt3 ops aos (listed.setIfInBounds j true) i = true := by
  unfold freeAt3 at *
  cases hi : aos[i]? with
  | none => rw [hi] at h; exact h
  | some oi =>
    rw [hi] at h
    simp only [Bool.and_eq_true, List.all_eq_true, List.mem_range] at h ⊢
    refine ⟨h.1, ?_⟩
    intro k hk
    have h1 := h.2 k hk
    simp only [Bool.or_eq_true] at h1 ⊢
    rcases h1 with h1 | h1
    · exact .inl h1
    · refine .inr ?_
      by_cases hjk : j = k
      · subst hjk
        rw [if_neg (by rw [hnb]; simp)]
        rcases Nat.lt_or_ge j listed.size with h' | h'
        · simp [h']
        · simp [h']
      · rw [getD_set_ne true hjk]; exact h1
theorem aAny_take3 {R : AS → Prop} (hc : Compiled P N ops aos) {i : Nat} {oi : AOper} (hi : aos[i]? = some oi) : ∀ (fuel : Nat) (listed : Array Bool) (s : AS), freeAt3 ops aos listed i = true →
    i ∈ Region.ready .any ops listed → aown P oi s (aAny P ops aos R fuel (listed.setIfInBounds i true)) → aAny P ops aos R (fuel + 1) listed s := by
  intro fuel
  induction fuel with
  | zero =>
    intro listed s hfree hr H
    have hno := freeAt3_own hi hfree
    refine ⟨fun h => (by rw [h] at hr; cases hr), fun j hj => ?_⟩
    by_cases hji : j = i
    · subst hji; exact ⟨oi, hi, by rw [hno]; exact aown_aop1 H⟩
    · have := ready_mono hj hji
      obtain ⟨s', h1⟩ := aop1_some (aown_aop1 H)
      rw [h1.1] at this
      cases this
  | succ fuel ih =>
    intro listed s hfree hr H
    have hno := freeAt3_own hi hfree
    refine ⟨fun h => (by rw [h] at hr; cases hr), fun j hj => ?_⟩
    by_cases hji : j = i
    · subst hji; exact ⟨oi, hi, by rw [hno]; exact aown_aop1 H⟩
    · obtain ⟨hjun, oj, hoj, hall⟩ := mem_ready.1 hj
      obtain ⟨aj, haj, _⟩ := hc j oj hoj
      have hli : ∀ k, k = i → ¬ listed.getD k false = true := fun k hk h1 => by
        subst hk
        have h0 := (mem_ready.1 hr).1
        rcases Nat.lt_or_ge k listed.size with h' | h'
        · simp [h'] at h0 h1; rw [h0] at h1; cases h1
        · simp [Array.getElem?_eq_none h'] at h1
      have hnb : behindN ops i 8 j = false := by
        cases hb : behindN ops i 8 j with
        | false => rfl
        | true =>
          exfalso
          obtain ⟨oj', e, h1, h2, h3, h4⟩ := behindN_edge hb
          rw [hoj] at h1
          cases h1
          have h5 := hall e h2 h3
          rcases h4 with h4 | h4
          · exact hli e.on h4 h5
          · by_cases he : e.on = i
            · exact hli e.on he h5
            · have h6 := behindN_mono h4
              obtain ⟨ok, _, h7, _⟩ := behindN_edge h6
              rcases freeAt3_spec hi hfree e.on (Array.getElem?_eq_some_iff.1 h7).1 he with ⟨_, h8⟩ | ⟨h8, _⟩
              · rcases Nat.lt_or_ge e.on listed.size with h' | h'
                · simp [h'] at h5 h8; rw [h5] at h8; cases h8
                · simp [Array.getElem?_eq_none h'] at h5
              · rw [h6] at h8; cases h8
      have hind : oi.movs aj = true ∧ aj.owner aos = false := by
        rcases freeAt3_spec hi hfree j (Array.getElem?_eq_some_iff.1 hoj).1 hji with ⟨h8, _⟩ | ⟨_, h8 | h8⟩
        · rw [hnb] at h8; cases h8
        · rw [hjun] at h8; cases h8
        · exact h8 aj haj
      obtain ⟨hind, hjo⟩ := hind
      refine ⟨aj, haj, ?_⟩
      rw [hjo]
      have h1 : aown P oi s fun s1 => aop1 P false aj s1 (aAny P ops aos R fuel ((listed.setIfInBounds i true).setIfInBounds j true)) := by
        refine aown_mono (fun s1 h => ?_) H
        obtain ⟨ao, g1, g2⟩ := h.2 j (ready_mono hj hji)
        rw [haj] at g1
        cases g1
        rw [hjo] at g2
        exact g2
      refine aop1_mono (fun s2 h => ?_) (swap_own hind h1)
      refine ih (listed.setIfInBounds j true) s2 (freeAt3_less hfree hnb) (ready_mono hr (Ne.symm hji)) ?_
      rw [Array.setIfInBounds_comm _ _ hji]
      exact h
/-- A new region, told by its number. -/
def AOper.news (p : AOper) (r : Nat) : Bool :=
  p.g.isNone && p.d == some r && (match p.op with | .alloc _ => true | .bsl _ _ _ parts => parts.isEmpty | _ => false)
/-- The regions that are made new. -/
def preRs (aos : List AOper) : List Nat := aos.filterMap fun p => match p.d with | some r => if p.news r then some r else none | none => none
/-- Does p not disturb o, if what o sees and tells is not of the regions rs? -/
def AOper.preOk (aos : List AOper) (rs : List Nat) (o p : AOper) : Bool :=
  !p.owner aos && ((o.indep p && decide (p.op.cls ≤ 1)) || rs.any fun r => p.news r && o.d != some r && !o.sees.contains r)
/-- An operation whose values are not of the regions rs. -/
def apre (P : Program) (o : AOper) (rs : List Nat) (s : AS) (K : AS → Prop) : Prop :=
  ∃ d, o.d = some d ∧ (∀ r ∈ rs, ∀ t ∈ o.sees, killV r (s.tm t) = s.tm t) ∧ aop1 P false o s fun s' => (∀ r ∈ rs, killV r (s'.tm d) = s'.tm d) ∧ K s'
theorem apre_mono {o : AOper} {rs : List Nat} {K K' : AS → Prop} (h : ∀ s, K s → K' s) (hK : apre P o rs s K) : apre P o rs s K' := by
  obtain ⟨d, h1, h2, h3⟩ := hK
  exact ⟨d, h1, h2, aop1_mono (fun s' h' => ⟨h'.1, h _ h'.2⟩) h3⟩
theorem apre_aop1 {o : AOper} {rs : List Nat} (hK : apre P o rs s K) : aop1 P false o s K := by
  obtain ⟨d, h1, h2, h3⟩ := hK
  exact aop1_mono (fun s' h' => h'.2) h3
theorem new1 {p : AOper} {r : Nat} (h : p.news r = true) (hK : aop1 P false p s K) :
    ∃ c v, K (((s.kill r).mem r c).put (some r) v) ∧ ∀ (s' : AS) (K' : AS → Prop), K' (((s'.kill r).mem r c).put (some r) v) → aop1 P false p s' K' := by
  obtain ⟨d, op, g⟩ := p
  unfold AOper.news at h
  simp only [Bool.and_eq_true, Option.isNone_iff_eq_none, beq_iff_eq] at h
  obtain ⟨⟨hg, hd⟩, hop⟩ := h
  subst hg hd
  unfold aop1 at hK ⊢
  cases op <;> simp at hop
  case alloc zero =>
    simp only [aexec] at hK ⊢
    obtain ⟨r', fl, hr, hK⟩ := hK
    cases hr
    exact ⟨_, _, hK, fun s' K' h' => ⟨_, _, rfl, h'⟩⟩
  case bsl z n zero parts =>
    subst hop
    simp only [aexec, afill] at hK ⊢
    obtain ⟨r', fl, out, hr, ho, hK⟩ := hK
    cases hr
    exact ⟨_, _, hK, fun s' K' h' => ⟨_, _, _, rfl, ho, h'⟩⟩
theorem swap_pre {o p : AOper} {rs : List Nat} (h0 : o.op.cls = 0) (h : o.preOk aos rs p = true) (hK : apre P o rs s fun s1 => aop1 P (p.owner aos) p s1 K) : aop1 P (p.owner aos) p s fun s2 => apre P o rs s2 K := by
  obtain ⟨d, hd, hcl, hK⟩ := hK
  unfold AOper.preOk at h
  simp only [Bool.and_eq_true, Bool.not_eq_true', Bool.or_eq_true, List.any_eq_true, decide_eq_true_eq] at h
  obtain ⟨how, h⟩ := h
  rw [how] at hK ⊢
  obtain ⟨x, hx, hout, hK⟩ := light1 (by omega) hK
  have hout : ∀ r ∈ rs, killV r x = x := fun r hr => by
    have := hout r hr
    rw [hd] at this
    simpa [AS.put] using this
  rcases h with ⟨hi, hp1⟩ | ⟨r, hr, h⟩
  · obtain ⟨i1, i2, i3, i4⟩ := AOper.indep_spec hi
    obtain ⟨y, hy, hK⟩ := light1 hp1 hK
    refine hy s _ (fun t ht => (put_tm_ne fun e => i1 t e ht).symm) (.inr (put_hp _ _ _).symm) ?_
    have hsee : ∀ t ∈ o.sees, (s.put p.d y).tm t = s.tm t := fun t ht => put_tm_ne fun e => i3 t e ht
    refine ⟨d, hd, fun r hr t ht => by rw [hsee t ht]; exact hcl r hr t ht, ?_⟩
    refine hx _ _ hsee (.inl h0) ⟨fun r hr => ?_, ?_⟩
    · rw [hd]
      simpa [AS.put] using hout r hr
    · rw [← put_comm s x y fun k hk => i2 k hk]
      exact hK
  · obtain ⟨⟨hn, hne⟩, hsr⟩ := h
    obtain ⟨c, v, hK, hb⟩ := new1 hn hK
    refine hb s _ ?_
    have hdr : d ≠ r := fun e => by rw [hd, e] at hne; simp at hne
    have hsee : ∀ t ∈ o.sees, ((((s.kill r).mem r c).put (some r) v)).tm t = s.tm t := fun t ht => by
      have htr : t ≠ r := fun e => by subst e; simp [ht] at hsr
      show (if t = r then v else killV r (s.tm t)) = _
      rw [if_neg htr]
      exact hcl r hr t ht
    refine ⟨d, hd, fun r' hr' t ht => by rw [hsee t ht]; exact hcl r' hr' t ht, ?_⟩
    refine hx _ _ hsee (.inl h0) ⟨fun r' hr' => ?_, ?_⟩
    · rw [hd]
      simpa [AS.put] using hout r' hr'
    · rw [hd] at hK ⊢
      rw [own_state hdr, hout r hr] at hK
      exact hK
def freeAt4 (ops : Array Oper) (aos : List AOper) (listed : Array Bool) (i : Nat) : Bool :=
  match aos[i]? with
  | none => false
  | some oi => (!oi.owner aos && oi.op.cls == 0) && (List.range ops.size).all fun j => j == i || (if behindN ops i 8 j then !listed.getD j true else listed.getD j true || (match aos[j]? with | some aj => oi.preOk aos (preRs aos) aj | none => false))
theorem freeAt4_spec {i : Nat} {oi : AOper} {listed : Array Bool} (hi : aos[i]? = some oi) (h : freeAt4 ops aos listed i = true) (j : Nat) (hj : j < ops.size) (hne : j ≠ i) :
    (behindN ops i 8 j = true ∧ listed.getD j true = false) ∨ (behindN ops i 8 j = false ∧ (listed.getD j true = true ∨ ∀ aj, aos[j]? = some aj → oi.preOk aos (preRs aos) aj = true)) := by
  simp only [freeAt4, hi, Bool.and_eq_true, List.all_eq_true, List.mem_range] at h
  have h1 := h.2 j hj
  simp only [Bool.or_eq_true, beq_iff_eq, hne, false_or] at h1
  split at h1
  · rename_i hb; exact .inl ⟨hb, by simpa using h1⟩
  · rename_i hb
    refine .inr ⟨by simpa using hb, ?_⟩
    rcases (by simpa only [Bool.or_eq_true] using h1 : _ ∨ _) with h2 | h2
    · exact .inl h2
    · refine .inr fun aj haj => ?_
      rw [haj] at h2
      exact h2
theorem freeAt4_own {i : Nat} {oi : AOper} {listed : Array Bool} (hi : aos[i]? = some oi) (h : freeAt4 ops aos listed i = true) : oi.owner aos = false ∧ oi.op.cls = 0 := by
  simp only [freeAt4, hi, Bool.and_eq_true, Bool.not_eq_true', beq_iff_eq] at h
  exact h.1
theorem freeAt4_less {i j : Nat} {listed : Array Bool} (h : freeAt4 ops aos listed i = true) (hnb : behindN ops i 8 j = false) : freeAt4 ops aos (listed.setIfInBounds j true) i = true := by
  unfold freeAt4 at *
  cases hi : aos[i]? with
  | none => rw [hi] at h; exact h
  | some oi =>
    rw [hi] at h
    simp only [Bool.and_eq_true, List.all_eq_true, List.mem_range] at h ⊢
    refine ⟨h.1, ?_⟩
    intro k hk
    have h1 := h.2 k hk
    simp only [Bool.or_eq_true] at h1 ⊢
    rcases h1 with h1 | h1
    · exact .inl h1
    · refine .inr ?_
      by_cases hjk : j = k
      · subst hjk
        rw [if_neg (by rw [hnb]; simp)]
        rcases Nat.lt_or_ge j listed.size with h' | h'
        · simp [h']
        · simp [h']
      · rw [getD_set_ne true hjk]; exact h1
theorem aAny_take4 {R : AS → Prop} (hc : Compiled P N ops aos) {i : Nat} {oi : AOper} (hi : aos[i]? = some oi) : ∀ (fuel : Nat) (listed : Array Bool) (s : AS), freeAt4 ops aos listed i = true →
    i ∈ Region.ready .any ops listed → apre P oi (preRs aos) s (aAny P ops aos R fuel (listed.setIfInBounds i true)) → aAny P ops aos R (fuel + 1) listed s := by
  intro fuel
  induction fuel with
  | zero =>
    intro listed s hfree hr H
    have hno := (freeAt4_own hi hfree).1
    refine ⟨fun h => (by rw [h] at hr; cases hr), fun j hj => ?_⟩
    by_cases hji : j = i
    · subst hji; exact ⟨oi, hi, by rw [hno]; exact apre_aop1 H⟩
    · have := ready_mono hj hji
      obtain ⟨s', h1⟩ := aop1_some (apre_aop1 H)
      rw [h1.1] at this
      cases this
  | succ fuel ih =>
    intro listed s hfree hr H
    have hno := (freeAt4_own hi hfree).1
    refine ⟨fun h => (by rw [h] at hr; cases hr), fun j hj => ?_⟩
    by_cases hji : j = i
    · subst hji; exact ⟨oi, hi, by rw [hno]; exact apre_aop1 H⟩
    · obtain ⟨hjun, oj, hoj, hall⟩ := mem_ready.1 hj
      obtain ⟨aj, haj, _⟩ := hc j oj hoj
      have hli : ∀ k, k = i → ¬ listed.getD k false = true := fun k hk h1 => by
        subst hk
        have h0 := (mem_ready.1 hr).1
        rcases Nat.lt_or_ge k listed.size with h' | h'
        · simp [h'] at h0 h1; rw [h0] at h1; cases h1
        · simp [Array.getElem?_eq_none h'] at h1
      have hnb : behindN ops i 8 j = false := by
        cases hb : behindN ops i 8 j with
        | false => rfl
        | true =>
          exfalso
          obtain ⟨oj', e, h1, h2, h3, h4⟩ := behindN_edge hb
          rw [hoj] at h1
          cases h1
          have h5 := hall e h2 h3
          rcases h4 with h4 | h4
          · exact hli e.on h4 h5
          · by_cases he : e.on = i
            · exact hli e.on he h5
            · have h6 := behindN_mono h4
              obtain ⟨ok, _, h7, _⟩ := behindN_edge h6
              rcases freeAt4_spec hi hfree e.on (Array.getElem?_eq_some_iff.1 h7).1 he with ⟨_, h8⟩ | ⟨h8, _⟩
              · rcases Nat.lt_or_ge e.on listed.size with h' | h'
                · simp [h'] at h5 h8; rw [h5] at h8; cases h8
                · simp [Array.getElem?_eq_none h'] at h5
              · rw [h6] at h8; cases h8
      have hind : oi.preOk aos (preRs aos) aj = true := by
        rcases freeAt4_spec hi hfree j (Array.getElem?_eq_some_iff.1 hoj).1 hji with ⟨h8, _⟩ | ⟨_, h8 | h8⟩
        · rw [hnb] at h8; cases h8
        · rw [hjun] at h8; cases h8
        · exact h8 aj haj
      refine ⟨aj, haj, ?_⟩
      have h1 : apre P oi (preRs aos) s fun s1 => aop1 P (aj.owner aos) aj s1 (aAny P ops aos R fuel ((listed.setIfInBounds i true).setIfInBounds j true)) := by
        refine apre_mono (fun s1 h => ?_) H
        obtain ⟨ao, g1, g2⟩ := h.2 j (ready_mono hj hji)
        rw [haj] at g1
        cases g1
        exact g2
      refine aop1_mono (fun s2 h => ?_) (swap_pre (freeAt4_own hi hfree).2 hind h1)
      refine ih (listed.setIfInBounds j true) s2 (freeAt4_less hfree hnb) (ready_mono hr (Ne.symm hji)) ?_
      rw [Array.setIfInBounds_comm _ _ hji]
      exact h
def atree (P : Program) : ATree → AS → (AS → Prop) → Prop
  | .done, s, R => R s
  | .take o t, s, R => aop1 P false o s fun s' => atree P t s' R
  | .two o t p u, s, R => (aop1 P false o s fun s' => atree P t s' R) ∧ (aop1 P false p s fun s' => atree P u s' R)
  | .own o t, s, R => aown P o s fun s' => atree P t s' R
  | .one o t, s, R => aop1 P true o s fun s' => atree P t s' R
  | .alt t u, s, R => atree P t s R ∧ atree P u s R
  | .pre o rs t, s, R => apre P o rs s fun s' => atree P t s' R
  | .top, _, _ => True
def aloneB (aos : List AOper) (r : Nat) : Bool := match aos[r]? with | some o => o.owner aos | none => false
def plainB (aos : List AOper) (r : Nat) : Bool := match aos[r]? with | some o => !o.owner aos | none => false
/-- The orders that are to be looked at. -/
def plan (ops : Array Oper) (aos : List AOper) : Nat → Array Bool → Option ATree
  | 0, listed => if Region.ready .any ops listed = [] then some .done else none
  | n + 1, listed =>
    match Region.ready .any ops listed with
    | [] => some .done
    | r :: rs =>
      if rs.isEmpty && plainB aos r then (aos[r]?).bind fun o => (plan ops aos n (listed.setIfInBounds r true)).map fun t => .take o t else
      match (r :: rs).find? (freeAt ops aos listed) with
      | some i => (aos[i]?).bind fun ao => (plan ops aos n (listed.setIfInBounds i true)).map fun t => .take ao t
      | none =>
        match (r :: rs).find? (freeAt3 ops aos listed) with
        | some i => (aos[i]?).bind fun ao => (plan ops aos n (listed.setIfInBounds i true)).map fun t => .own ao t
        | none =>
        if rs.isEmpty && aloneB aos r then (aos[r]?).bind fun o => (plan ops aos n (listed.setIfInBounds r true)).map fun t => .one o t else
        match rs with
        | [j] => (aos[r]?).bind fun o => (aos[j]?).bind fun p => if o.owner aos || p.owner aos then (if ownFV || !ownM.isEmpty then (plan ops aos n (listed.setIfInBounds r true)).bind fun t => (plan ops aos n (listed.setIfInBounds j true)).map fun u => .alt (if o.owner aos then .one o t else .take o t) (if p.owner aos then .one p u else .take p u) else none) else (plan ops aos n (listed.setIfInBounds r true)).bind fun t => (plan ops aos n (listed.setIfInBounds j true)).map fun u => .two o t p u
        | _ => match (r :: rs).find? (freeAt2 ops aos listed) with
          | some i => (aos[i]?).bind fun ao => (plan ops aos n (listed.setIfInBounds i true)).map fun t => .take ao t
          | none =>
            match (if 10 ≤ ops.size then (r :: rs).find? (freeAt4 ops aos listed) else none) with
            | some i => (aos[i]?).bind fun ao => (plan ops aos n (listed.setIfInBounds i true)).map fun t => .pre ao (preRs aos) t
            | none => if ops.size ≤ altMax then (r :: rs).foldr (fun i acc => acc.bind fun u => (aos[i]?).bind fun o => if o.owner aos && ownM.isEmpty then none else (plan ops aos n (listed.setIfInBounds i true)).map fun t => .alt (if o.owner aos then .one o t else .take o t) u) (some .top) else none
theorem plan_sound {R : AS → Prop} (hc : Compiled P N ops aos) : ∀ (fuel : Nat) (listed : Array Bool) (t : ATree) (s : AS), plan ops aos fuel listed = some t → atree P t s R → aAny P ops aos R fuel listed s := by
  intro fuel
  induction fuel with
  | zero =>
    intro listed t s hp ht
    unfold plan at hp
    split at hp
    · rename_i h; cases hp; exact ⟨h, ht⟩
    · cases hp
  | succ fuel ih =>
    intro listed t s hp ht
    unfold plan at hp
    split at hp
    · rename_i h
      cases hp
      exact ⟨fun _ => ht, by rw [h]; simp⟩
    · rename_i r rs hready
      split at hp
      · rename_i hal
        simp only [Bool.and_eq_true, List.isEmpty_iff] at hal
        obtain ⟨rfl, hown⟩ := hal
        rw [Option.bind_eq_some_iff] at hp
        obtain ⟨o, ho, hp⟩ := hp
        rw [Option.map_eq_some_iff] at hp
        obtain ⟨t1, ht1, rfl⟩ := hp
        unfold plainB at hown
        rw [ho] at hown
        replace hown : o.owner aos = false := by simpa using hown
        refine ⟨fun h => (by rw [hready] at h; cases h), fun k hk => ?_⟩
        rw [hready] at hk
        simp only [List.mem_cons, List.not_mem_nil, or_false] at hk
        subst hk
        exact ⟨o, ho, by rw [hown]; exact aop1_mono (fun s' h => ih _ _ _ ht1 h) ht⟩
      split at hp
      · rename_i i hfind
        rw [Option.bind_eq_some_iff] at hp
        obtain ⟨ao, hao, hp⟩ := hp
        rw [Option.map_eq_some_iff] at hp
        obtain ⟨t', ht', rfl⟩ := hp
        have hfree := List.find?_some hfind
        have hmem := List.mem_of_find?_eq_some hfind
        exact aAny_take hc hao fuel listed s hfree (by rw [hready]; exact hmem) (aop1_mono (fun s' h => ih _ _ _ ht' h) ht)
      · split at hp
        · rename_i i hfind
          rw [Option.bind_eq_some_iff] at hp
          obtain ⟨ao, hao, hp⟩ := hp
          rw [Option.map_eq_some_iff] at hp
          obtain ⟨t', ht', rfl⟩ := hp
          have hfree := List.find?_some hfind
          have hmem := List.mem_of_find?_eq_some hfind
          exact aAny_take3 hc hao fuel listed s hfree (by rw [hready]; exact hmem) (aown_mono (fun s' h => ih _ _ _ ht' h) ht)
        split at hp
        · rename_i hal
          simp only [Bool.and_eq_true, List.isEmpty_iff] at hal
          obtain ⟨rfl, hown⟩ := hal
          rw [Option.bind_eq_some_iff] at hp
          obtain ⟨o, ho, hp⟩ := hp
          rw [Option.map_eq_some_iff] at hp
          obtain ⟨t1, ht1, rfl⟩ := hp
          unfold aloneB at hown
          rw [ho] at hown
          replace hown : o.owner aos = true := hown
          refine ⟨fun h => (by rw [hready] at h; cases h), fun k hk => ?_⟩
          rw [hready] at hk
          simp only [List.mem_cons, List.not_mem_nil, or_false] at hk
          subst hk
          exact ⟨o, ho, by rw [hown]; exact aop1_mono (fun s' h => ih _ _ _ ht1 h) ht⟩
        split at hp
        · rename_i j
          rw [Option.bind_eq_some_iff] at hp
          obtain ⟨o, ho, hp⟩ := hp
          rw [Option.bind_eq_some_iff] at hp
          obtain ⟨p, hpo, hp⟩ := hp
          have mk : ∀ (o : AOper) (t : ATree) (i : Nat), aos[i]? = some o → plan ops aos fuel (listed.setIfInBounds i true) = some t → atree P (if o.owner aos then .one o t else .take o t) s R → ∃ ao, aos[i]? = some ao ∧ aop1 P (ao.owner aos) ao s (aAny P ops aos R fuel (listed.setIfInBounds i true)) := by
            intro o t i ho ht hat
            refine ⟨o, ho, ?_⟩
            cases hw : o.owner aos
            · rw [hw] at hat
              exact aop1_mono (fun s' h => ih _ _ _ ht h) hat
            · rw [hw] at hat
              exact aop1_mono (fun s' h => ih _ _ _ ht h) hat
          split at hp
          · split at hp
            · rw [Option.bind_eq_some_iff] at hp
              obtain ⟨t1, ht1, hp⟩ := hp
              rw [Option.map_eq_some_iff] at hp
              obtain ⟨u, hu, rfl⟩ := hp
              refine ⟨fun h => (by rw [hready] at h; cases h), fun k hk => ?_⟩
              rw [hready] at hk
              simp only [List.mem_cons, List.not_mem_nil, or_false] at hk
              rcases hk with rfl | rfl
              · exact mk o t1 _ ho ht1 ht.1
              · exact mk p u _ hpo hu ht.2
            · cases hp
          rename_i hown
          have hown : o.owner aos = false ∧ p.owner aos = false := by simpa using hown
          rw [Option.bind_eq_some_iff] at hp
          obtain ⟨t1, ht1, hp⟩ := hp
          rw [Option.map_eq_some_iff] at hp
          obtain ⟨u, hu, rfl⟩ := hp
          refine ⟨fun h => (by rw [hready] at h; cases h), fun k hk => ?_⟩
          rw [hready] at hk
          simp only [List.mem_cons, List.not_mem_nil, or_false] at hk
          rcases hk with rfl | rfl
          · exact ⟨o, ho, by rw [hown.1]; exact aop1_mono (fun s' h => ih _ _ _ ht1 h) ht.1⟩
          · exact ⟨p, hpo, by rw [hown.2]; exact aop1_mono (fun s' h => ih _ _ _ hu h) ht.2⟩
        · split at hp
          · rename_i i hfind
            rw [Option.bind_eq_some_iff] at hp
            obtain ⟨ao, hao, hp⟩ := hp
            rw [Option.map_eq_some_iff] at hp
            obtain ⟨t', ht', rfl⟩ := hp
            have hfree := List.find?_some hfind
            have hmem := List.mem_of_find?_eq_some hfind
            exact aAny_take2 hc hao fuel listed s hfree (by rw [hready]; exact hmem) (aop1_mono (fun s' h => ih _ _ _ ht' h) ht)
          · split at hp
            · rename_i i hfind
              have hfind : (r :: rs).find? (freeAt4 ops aos listed) = some i := by
                split at hfind
                · exact hfind
                · cases hfind
              rw [Option.bind_eq_some_iff] at hp
              obtain ⟨ao, hao, hp⟩ := hp
              rw [Option.map_eq_some_iff] at hp
              obtain ⟨t', ht', rfl⟩ := hp
              have hfree := List.find?_some hfind
              have hmem := List.mem_of_find?_eq_some hfind
              exact aAny_take4 hc hao fuel listed s hfree (by rw [hready]; exact hmem) (apre_mono (fun s' h => ih _ _ _ ht' h) ht)
            split at hp
            · refine ⟨fun h => (by rw [hready] at h; cases h), ?_⟩
              rw [hready]
              generalize (r :: rs) = l at hp
              clear hready
              induction l generalizing t with
              | nil => intro i hi; simp at hi
              | cons j l ihl =>
                rw [List.foldr_cons, Option.bind_eq_some_iff] at hp
                obtain ⟨u, hu, hp⟩ := hp
                rw [Option.bind_eq_some_iff] at hp
                obtain ⟨o, ho, hp⟩ := hp
                split at hp
                · cases hp
                rw [Option.map_eq_some_iff] at hp
                obtain ⟨t1, ht1, rfl⟩ := hp
                intro i hi
                rcases List.mem_cons.1 hi with rfl | hi
                · refine ⟨o, ho, ?_⟩
                  have hat := ht.1
                  cases hw : o.owner aos
                  · rw [hw] at hat
                    exact aop1_mono (fun s' h => ih _ _ _ ht1 h) hat
                  · rw [hw] at hat
                    exact aop1_mono (fun s' h => ih _ _ _ ht1 h) hat
                · exact ihl u ht.2 hu i hi
            · cases hp
/-- A long region whose operations can be taken asx they stand: each one is not disturbed by those behind it that don't wait for it. -/
def sPair (i : Nat) (oi : AOper) : List Oper → List AOper → Bool
  | [], _ => true
  | _ :: _, [] => false
  | o :: os, a :: al => (o.after.any (fun e => Region.binds .any e && e.on == i) || (oi.indep a || oi.easy a)) && sPair i oi os al
def sAll : Nat → List Oper → List AOper → Bool
  | _, [], [] => true
  | _, [], _ :: _ => false
  | _, _ :: _, [] => false
  | i, o :: os, a :: al => o.after.all (fun e => Nat.blt e.on i) && sPair i a os al && sAll (i + 1) os al
def sOwn (aos : List AOper) : Bool := aos.all fun a => !a.owner aos
def takes : List AOper → ATree
  | [] => .done
  | a :: l => .take a (takes l)
def plan0 (ops : Array Oper) (aos : List AOper) : Option ATree := if Nat.ble 40 ops.size && (sOwn aos && sAll 0 ops.toList aos) then some (takes aos) else plan ops aos ops.size (Array.replicate ops.size false)
theorem sPair_at {i : Nat} {oi : AOper} : ∀ {os : List Oper} {al : List AOper} (q : Nat) {o : Oper} {a : AOper}, sPair i oi os al = true → os[q]? = some o → al[q]? = some a → (o.after.any (fun e => Region.binds .any e && e.on == i) || (oi.indep a || oi.easy a)) = true
  | [], _, q, _, _, _, h1, _ => by simp at h1
  | _ :: _, [], q, _, _, h, _, _ => by simp [sPair] at h
  | o :: os, a :: al, 0, _, _, h, h1, h2 => by
    simp only [sPair, Bool.and_eq_true] at h
    simp only [List.getElem?_cons_zero, Option.some.injEq] at h1 h2
    subst h1
    subst h2
    exact h.1
  | o :: os, a :: al, q + 1, _, _, h, h1, h2 => by
    simp only [sPair, Bool.and_eq_true] at h
    exact sPair_at q h.2 (by simpa using h1) (by simpa using h2)
theorem straight_sound {R : AS → Prop} (hc : Compiled P N ops aos) (hown : sOwn aos = true) : ∀ (m k : Nat) (listed : Array Bool) (s : AS), k + m = ops.size → (∀ i, i < ops.size → listed[i]? = some (decide (i < k))) →
    sAll k (ops.toList.drop k) (aos.drop k) = true → atree P (takes (aos.drop k)) s R → aAny P ops aos R m listed s := by
  intro m
  induction m with
  | zero =>
    intro k listed s hk hl hs ht
    have hd : ops.toList.drop k = [] := List.drop_eq_nil_of_le (by rw [Array.length_toList]; omega)
    rw [hd] at hs
    cases ha : aos.drop k with
    | cons a l => rw [ha] at hs; simp [sAll] at hs
    | nil =>
      rw [ha] at ht
      refine ⟨?_, ht⟩
      unfold Region.ready
      rw [List.filter_eq_nil_iff]
      intro i hi
      have hi' := List.mem_range.1 hi
      have := hl i hi'
      rw [show decide (i < k) = true from decide_eq_true (by omega)] at this
      simp [Array.getD_eq_getD_getElem?, this]
  | succ m ih =>
    intro k listed s hk hl hs ht
    have hkl : k < ops.toList.length := by rw [Array.length_toList]; omega
    rw [List.drop_eq_getElem_cons hkl] at hs
    cases ha : aos.drop k with
    | nil => rw [ha] at hs; simp [sAll] at hs
    | cons a l =>
      have hka : k < aos.length := by
        rcases Nat.lt_or_ge k aos.length with h | h
        · exact h
        · rw [List.drop_eq_nil_of_le h] at ha; cases ha
      have ha2 := ha
      rw [List.drop_eq_getElem_cons hka] at ha2
      obtain ⟨e1, e2⟩ := List.cons.inj ha2
      rw [ha] at hs ht
      simp only [sAll, Bool.and_eq_true] at hs
      obtain ⟨⟨h1, h2⟩, h3⟩ := hs
      have hak : aos[k]? = some a := by rw [List.getElem?_eq_getElem hka, e1]
      have hok : ops[k]? = some ops.toList[k] := by simp [show k < ops.size by omega]
      have hlk : ∀ j, j < ops.size → listed.getD j true = decide (j < k) := fun j hj => by rw [Array.getD_eq_getD_getElem?, hl j hj]; rfl
      have hlf : ∀ j, j < k → listed.getD j false = true := fun j hj => by rw [Array.getD_eq_getD_getElem?, hl j (by omega)]; simp [hj]
      have hmem : a ∈ aos := by rw [← e1]; exact List.getElem_mem hka
      have hnown : a.owner aos = false := by
        have := List.all_eq_true.1 hown a hmem
        simpa using this
      refine aAny_take hc hak m listed s ?_ ?_ (aop1_mono (fun s' h => ih (k + 1) _ s' (by omega) ?_ (by rw [← e2] at h3; exact h3) (by rw [e2]; exact h)) ht)
      · unfold freeAt
        rw [hak]
        simp only [hnown, Bool.not_false, Bool.true_and, List.all_eq_true, List.mem_range]
        intro j hj
        rcases Nat.lt_trichotomy j k with hjk | hjk | hjk
        · simp [hlk j hj, hjk]
        · simp [hjk]
        · obtain ⟨q, rfl⟩ := Nat.exists_eq_add_of_lt hjk
          have hoj : ops[k + q + 1]? = some ops.toList[k + q + 1] := by simp [hj]
          obtain ⟨aj, haj, _⟩ := hc _ _ hoj
          rw [hoj, haj]
          have q1 : (ops.toList.drop (k + 1))[q]? = some ops.toList[k + q + 1] := by rw [List.getElem?_drop, show k + 1 + q = k + q + 1 by omega, List.getElem?_eq_getElem (by rw [Array.length_toList]; exact hj)]
          have q2 : l[q]? = some aj := by rw [← e2, List.getElem?_drop, show k + 1 + q = k + q + 1 by omega]; exact haj
          have hp := sPair_at q h2 q1 q2
          have hno : aj.owner aos = false := by
            have := List.all_eq_true.1 hown aj (List.mem_of_getElem? haj)
            simpa using this
          simp only [Bool.or_eq_true] at hp ⊢
          refine .inr ?_
          rcases hp with hp | hp
          · exact .inl hp
          · refine .inr ?_
            unfold AOper.pass
            rw [hno]
            simp only [Bool.not_false, Bool.and_true, Bool.or_eq_true]
            exact hp
      · unfold Region.ready
        rw [List.mem_filter]
        refine ⟨List.mem_range.2 (by omega), ?_⟩
        rw [hlk k (by omega), hok]
        simp only [Nat.lt_irrefl, decide_false, Bool.not_false, Bool.true_and, Option.map_some, Option.getD_some]
        rw [Array.all_eq_true']
        intro e he
        have hb : Nat.blt e.on k = true := by
          rw [Array.all_eq_true'] at h1
          exact h1 e he
        have : e.on < k := by simpa [Nat.blt_eq] using hb
        simp [hlf e.on this]
      · intro i hi
        rw [Array.getElem?_setIfInBounds]
        by_cases hik : k = i
        · subst hik
          have : k < listed.size := by
            have := hl k hi
            exact (Array.getElem?_eq_some_iff.1 this).1
          simp [this]
        · rw [if_neg hik, hl i hi]
          congr 1
          exact decide_eq_decide.2 ⟨fun h => by omega, fun h => by omega⟩
theorem plan0_sound {R : AS → Prop} (hc : Compiled P N ops aos) {t : ATree} {s : AS} (hp : plan0 ops aos = some t) (ht : atree P t s R) : aAny P ops aos R ops.size (Array.replicate ops.size false) s := by
  unfold plan0 at hp
  split at hp
  · rename_i h
    simp only [Bool.and_eq_true] at h
    cases hp
    exact straight_sound hc h.2.1 ops.size 0 _ s (by omega) (fun i hi => by simp [hi]) (by simpa using h.2.2) (by simpa using ht)
  · exact plan_sound hc _ _ _ _ hp ht
theorem compiled_of_mapM {aos : List AOper} (h : ops.toList.mapM (cop P N ops) = some aos) : Compiled P N ops aos := by
  have key : ∀ (l : List Oper) (out : List AOper), l.mapM (cop P N ops) = some out → ∀ (i : Nat) (o : Oper), l[i]? = some o → ∃ ao, out[i]? = some ao ∧ cop P N ops o = some ao := by
    intro l
    induction l with
    | nil => intro out _ i o hi; simp at hi
    | cons x l ih =>
      intro out h i o hi
      rw [List.mapM_cons] at h
      simp only [Option.bind_eq_bind, Option.bind_eq_some_iff, Option.pure_def, Option.some.injEq] at h
      obtain ⟨ao, h1, out', h2, rfl⟩ := h
      cases i with
      | zero => simp at hi; subst hi; exact ⟨ao, by simp, h1⟩
      | succ i => simpa using ih out' h2 i o (by simpa using hi)
  intro i o hi
  exact key _ _ h i o (by simpa using hi)
end
end Go.Am
namespace Go.Am
variable [Go.Am.CodeBlk]
variable {P : Program} {N : Nat} {s : AS} {Q : Exit → AS → Prop}
/-- A region whose orders the machine does not know stands for nothing: no proof may come to it. -/
def treeOf : Option ATree → ACode
  | some t => .tree t
  | none => .dead
def ccode (P : Program) (N : Nat) : Code → Option ACode
  | .skip => some .skip
  | .region _ ops draw => (ops.toList.mapM (cop P N ops)).bind fun l =>
      if draw then (if P.follows .mixedOrders then some (treeOf (plan0 ops l)) else none) else some (.ops l)
  | .seq a b => (ccode P N a).bind fun x => (ccode P N b).map fun y => .seq x y
  | .cond c a b => (ccode P N a).bind fun x => (ccode P N b).map fun y => .cond (opd c) x y
  | .block id a => (ccode P N a).map (.block id)
  | .loop a => (ccode P N a).map .loop
  | .exit id => some (.exit id)
  | .ret => some .ret
  | .scope a => (ccode P N a).map .scope
  | .label l => some (.label l)
  | .goto l => some (.goto l)
  | _ => some .dead
/-- From the state s the code comes to an exit and a state of which Q tells. -/
def AW (P : Program) (N : Nat) (c : ACode) (s : AS) (Q : Exit → AS → Prop) : Prop :=
  ∀ code, ccode P N code = some c → ∀ w0 mu a w, Simw w0 mu N s a w → code.wp P (fun e a' w' => After w0 mu N (Q e) a' w') a w
theorem Weak.refl (s : AS) : Weak s s := fun _ _ _ _ _ h => h
theorem Weak.trans {s t u : AS} (h : Weak s t) (k : Weak t u) : Weak s u := fun _ _ _ _ _ x => k _ _ _ _ _ (h _ _ _ _ _ x)
theorem AW_weak {c : ACode} {s s' : AS} (h : Weak s s') (k : AW P N c s' Q) : AW P N c s Q := fun code hc w0 mu a w hS => k code hc w0 mu a w (h _ _ _ _ _ hS)
theorem AW_mono {c : ACode} {Q' : Exit → AS → Prop} (k : AW P N c s Q) (h : ∀ e s, Q e s → Q' e s) : AW P N c s Q' :=
  fun code hc w0 mu a w hS => wp_mono (k code hc w0 mu a w hS) fun e _ _ ⟨s', h1, h2⟩ => ⟨s', h e s' h1, h2⟩
theorem AW_skip (h : Q .normal s) : AW P N .skip s Q := by
  intro code hc w0 mu a w hS
  cases code <;> simp only [ccode] at hc
  case skip => exact wp_skip ⟨s, h, hS⟩
  case region id ops draw =>
    rw [Option.bind_eq_some_iff] at hc
    obtain ⟨l, _, hc⟩ := hc
    split at hc
    · split at hc
      · generalize plan0 ops _ = o at hc; cases o <;> cases hc
      · cases hc
    · cases hc
  case seq => rw [Option.bind_eq_some_iff] at hc; obtain ⟨_, _, hc⟩ := hc; rw [Option.map_eq_some_iff] at hc; obtain ⟨_, _, hc⟩ := hc; cases hc
  case cond => rw [Option.bind_eq_some_iff] at hc; obtain ⟨_, _, hc⟩ := hc; rw [Option.map_eq_some_iff] at hc; obtain ⟨_, _, hc⟩ := hc; cases hc
  case block => rw [Option.map_eq_some_iff] at hc; obtain ⟨_, _, hc⟩ := hc; cases hc
  case scope => rw [Option.map_eq_some_iff] at hc; obtain ⟨_, _, hc⟩ := hc; cases hc
  case loop => rw [Option.map_eq_some_iff] at hc; obtain ⟨_, _, hc⟩ := hc; cases hc
  all_goals cases hc
theorem AW_ops {l : List AOper} (h : aops P true l s (Q .normal)) : AW P N (.ops l) s Q := by
  intro code hc w0 mu a w hS
  cases code <;> simp only [ccode] at hc
  case region id ops draw =>
    rw [Option.bind_eq_some_iff] at hc
    obtain ⟨l', hl, hc⟩ := hc
    split at hc
    · split at hc
      · generalize plan0 ops _ = o at hc; cases o <;> cases hc
      · cases hc
    · rename_i hd
      cases hc
      have hd' : draw = false := by simpa using hd
      subst hd'
      refine wp_region ?_
      have hcomp := comp_of_mapM ops ops.toList 0 l (fun j => by simp) hl
      rw [Array.length_toList, ← List.range_eq_range'] at hcomp
      exact aops_sound (fun a w hA => hA) hcomp hS h
  case seq => rw [Option.bind_eq_some_iff] at hc; obtain ⟨_, _, hc⟩ := hc; rw [Option.map_eq_some_iff] at hc; obtain ⟨_, _, hc⟩ := hc; cases hc
  case cond => rw [Option.bind_eq_some_iff] at hc; obtain ⟨_, _, hc⟩ := hc; rw [Option.map_eq_some_iff] at hc; obtain ⟨_, _, hc⟩ := hc; cases hc
  case block => rw [Option.map_eq_some_iff] at hc; obtain ⟨_, _, hc⟩ := hc; cases hc
  case scope => rw [Option.map_eq_some_iff] at hc; obtain ⟨_, _, hc⟩ := hc; cases hc
  case loop => rw [Option.map_eq_some_iff] at hc; obtain ⟨_, _, hc⟩ := hc; cases hc
  all_goals cases hc
theorem Simw.draw {w0 w : World} {mu : Nat → Option Nat} {a : Act} (h : Simw w0 mu N s a w) : Simw w0 mu N s a { w with drawn := w.drawn + 1 } := by
  obtain ⟨hf, phi, ro, h⟩ := h
  exact ⟨hf, phi, ro, h.more_same (More.drew w)⟩
theorem AW_tree {t : ATree} (h : atree P t s (Q .normal)) : AW P N (.tree t) s Q := by
  intro code hc w0 mu a w hS
  cases code <;> simp only [ccode] at hc
  case region id ops draw =>
    rw [Option.bind_eq_some_iff] at hc
    obtain ⟨l', hl, hc⟩ := hc
    split at hc
    · rename_i hd
      split at hc
      · rename_i hm
        cases ht : plan0 ops l' with
        | none => rw [ht] at hc; cases hc
        | some t' =>
        rw [ht] at hc
        cases hc
        subst hd
        have hcomp := compiled_of_mapM hl
        exact wp_region_any hm (aAny_sound hcomp (fun a w hA => hA) _ _ _ _ _ hS.draw (plan0_sound hcomp ht h))
      · cases hc
    · cases hc
  case seq => rw [Option.bind_eq_some_iff] at hc; obtain ⟨_, _, hc⟩ := hc; rw [Option.map_eq_some_iff] at hc; obtain ⟨_, _, hc⟩ := hc; cases hc
  case cond => rw [Option.bind_eq_some_iff] at hc; obtain ⟨_, _, hc⟩ := hc; rw [Option.map_eq_some_iff] at hc; obtain ⟨_, _, hc⟩ := hc; cases hc
  case block => rw [Option.map_eq_some_iff] at hc; obtain ⟨_, _, hc⟩ := hc; cases hc
  case scope => rw [Option.map_eq_some_iff] at hc; obtain ⟨_, _, hc⟩ := hc; cases hc
  case loop => rw [Option.map_eq_some_iff] at hc; obtain ⟨_, _, hc⟩ := hc; cases hc
  all_goals cases hc
/-- Behind a statement that comes to its end: the next one. -/
def Then (K : AS → Prop) (Q : Exit → AS → Prop) : Exit → AS → Prop
  | .normal, s => K s
  | e, s => Q e s
theorem AW_seq {x y : ACode} (h : AW P N x s (Then (fun s' => AW P N y s' Q) Q)) : AW P N (.seq x y) s Q := by
  intro code hc w0 mu a w hS
  cases code <;> simp only [ccode] at hc
  case region id ops draw =>
    rw [Option.bind_eq_some_iff] at hc
    obtain ⟨l, _, hc⟩ := hc
    split at hc
    · split at hc
      · generalize plan0 ops _ = o at hc; cases o <;> cases hc
      · cases hc
    · cases hc
  case seq p q =>
    rw [Option.bind_eq_some_iff] at hc
    obtain ⟨x', hx, hc⟩ := hc
    rw [Option.map_eq_some_iff] at hc
    obtain ⟨y', hy, hc⟩ := hc
    cases hc
    refine wp_seq (wp_mono (h p hx w0 mu a w hS) fun e a' w' hA => ?_)
    obtain ⟨s', h1, h2⟩ := hA
    cases e with
    | normal => exact h1 q hy w0 mu a' w' h2
    | _ => exact ⟨s', h1, h2⟩
  case cond => rw [Option.bind_eq_some_iff] at hc; obtain ⟨_, _, hc⟩ := hc; rw [Option.map_eq_some_iff] at hc; obtain ⟨_, _, hc⟩ := hc; cases hc
  case block => rw [Option.map_eq_some_iff] at hc; obtain ⟨_, _, hc⟩ := hc; cases hc
  case scope => rw [Option.map_eq_some_iff] at hc; obtain ⟨_, _, hc⟩ := hc; cases hc
  case loop => rw [Option.map_eq_some_iff] at hc; obtain ⟨_, _, hc⟩ := hc; cases hc
  all_goals cases hc
theorem AW_cond {c : Opd} {x y : ACode} {b : Bool} (hb : s.ev c = .v (.bool b)) (hx : b = true → AW P N x s Q) (hy : b = false → AW P N y s Q) : AW P N (.cond c x y) s Q := by
  intro code hc w0 mu a w hS
  cases code <;> simp only [ccode] at hc
  case region id ops draw =>
    rw [Option.bind_eq_some_iff] at hc
    obtain ⟨l, _, hc⟩ := hc
    split at hc
    · split at hc
      · generalize plan0 ops _ = o at hc; cases o <;> cases hc
      · cases hc
    · cases hc
  case seq => rw [Option.bind_eq_some_iff] at hc; obtain ⟨_, _, hc⟩ := hc; rw [Option.map_eq_some_iff] at hc; obtain ⟨_, _, hc⟩ := hc; cases hc
  case cond c' p q =>
    rw [Option.bind_eq_some_iff] at hc
    obtain ⟨x', hx', hc⟩ := hc
    rw [Option.map_eq_some_iff] at hc
    obtain ⟨y', hy', hc⟩ := hc
    cases hc
    obtain ⟨hf, phi, ro, h⟩ := hS
    have hev := h.ev c'
    rw [hb] at hev
    simp only [SimV] at hev
    cases b
    · exact wp_cond_false hev (hy rfl q hy' w0 mu a w ⟨hf, phi, ro, h⟩)
    · exact wp_cond_true hev (hx rfl p hx' w0 mu a w ⟨hf, phi, ro, h⟩)
  case block => rw [Option.map_eq_some_iff] at hc; obtain ⟨_, _, hc⟩ := hc; cases hc
  case scope => rw [Option.map_eq_some_iff] at hc; obtain ⟨_, _, hc⟩ := hc; cases hc
  case loop => rw [Option.map_eq_some_iff] at hc; obtain ⟨_, _, hc⟩ := hc; cases hc
  all_goals cases hc
def InBlock (id : Nat) (Q : Exit → AS → Prop) : Exit → AS → Prop
  | .exit id', s => if id' = id then Q .normal s else Q (.exit id') s
  | e, s => Q e s
theorem AW_block {id : Nat} {x : ACode} (h : AW P N x s (InBlock id Q)) : AW P N (.block id x) s Q := by
  intro code hc w0 mu a w hS
  cases code <;> simp only [ccode] at hc
  case region id ops draw =>
    rw [Option.bind_eq_some_iff] at hc
    obtain ⟨l, _, hc⟩ := hc
    split at hc
    · split at hc
      · generalize plan0 ops _ = o at hc; cases o <;> cases hc
      · cases hc
    · cases hc
  case seq => rw [Option.bind_eq_some_iff] at hc; obtain ⟨_, _, hc⟩ := hc; rw [Option.map_eq_some_iff] at hc; obtain ⟨_, _, hc⟩ := hc; cases hc
  case cond => rw [Option.bind_eq_some_iff] at hc; obtain ⟨_, _, hc⟩ := hc; rw [Option.map_eq_some_iff] at hc; obtain ⟨_, _, hc⟩ := hc; cases hc
  case block id' p =>
    rw [Option.map_eq_some_iff] at hc
    obtain ⟨x', hx, hc⟩ := hc
    cases hc
    refine wp_block (wp_mono (h p hx w0 mu a w hS) fun e a' w' hA => ?_)
    obtain ⟨s', h1, h2⟩ := hA
    cases e with
    | exit id' =>
      simp only [InBlock] at h1
      simp only [Exit.inBlock]
      split
      · rename_i he; rw [if_pos he] at h1; exact ⟨s', h1, h2⟩
      · rename_i he; rw [if_neg he] at h1; exact ⟨s', h1, h2⟩
    | _ => exact ⟨s', h1, h2⟩
  case loop => rw [Option.map_eq_some_iff] at hc; obtain ⟨_, _, hc⟩ := hc; cases hc
  case scope => rw [Option.map_eq_some_iff] at hc; obtain ⟨_, _, hc⟩ := hc; cases hc
  all_goals cases hc
theorem AW_exit {id : Nat} (h : Q (.exit id) s) : AW P N (.exit id) s Q := by
  intro code hc w0 mu a w hS
  cases code <;> simp only [ccode] at hc
  case region id ops draw =>
    rw [Option.bind_eq_some_iff] at hc
    obtain ⟨l, _, hc⟩ := hc
    split at hc
    · split at hc
      · generalize plan0 ops _ = o at hc; cases o <;> cases hc
      · cases hc
    · cases hc
  case seq => rw [Option.bind_eq_some_iff] at hc; obtain ⟨_, _, hc⟩ := hc; rw [Option.map_eq_some_iff] at hc; obtain ⟨_, _, hc⟩ := hc; cases hc
  case cond => rw [Option.bind_eq_some_iff] at hc; obtain ⟨_, _, hc⟩ := hc; rw [Option.map_eq_some_iff] at hc; obtain ⟨_, _, hc⟩ := hc; cases hc
  case block => rw [Option.map_eq_some_iff] at hc; obtain ⟨_, _, hc⟩ := hc; cases hc
  case scope => rw [Option.map_eq_some_iff] at hc; obtain ⟨_, _, hc⟩ := hc; cases hc
  case loop => rw [Option.map_eq_some_iff] at hc; obtain ⟨_, _, hc⟩ := hc; cases hc
  case exit id' => cases hc; exact wp_exit ⟨s, h, hS⟩
  all_goals cases hc
theorem AW_ret (h : Q .ret s) : AW P N .ret s Q := by
  intro code hc w0 mu a w hS
  cases code <;> simp only [ccode] at hc
  case region id ops draw =>
    rw [Option.bind_eq_some_iff] at hc
    obtain ⟨l, _, hc⟩ := hc
    split at hc
    · split at hc
      · generalize plan0 ops _ = o at hc; cases o <;> cases hc
      · cases hc
    · cases hc
  case seq => rw [Option.bind_eq_some_iff] at hc; obtain ⟨_, _, hc⟩ := hc; rw [Option.map_eq_some_iff] at hc; obtain ⟨_, _, hc⟩ := hc; cases hc
  case cond => rw [Option.bind_eq_some_iff] at hc; obtain ⟨_, _, hc⟩ := hc; rw [Option.map_eq_some_iff] at hc; obtain ⟨_, _, hc⟩ := hc; cases hc
  case block => rw [Option.map_eq_some_iff] at hc; obtain ⟨_, _, hc⟩ := hc; cases hc
  case scope => rw [Option.map_eq_some_iff] at hc; obtain ⟨_, _, hc⟩ := hc; cases hc
  case loop => rw [Option.map_eq_some_iff] at hc; obtain ⟨_, _, hc⟩ := hc; cases hc
  case ret => exact wp_ret ⟨s, h, hS⟩
  all_goals cases hc
/-- What comes behind a label of a scope. -/
def afind : ACode → Nat → Option ACode
  | .seq a b, l =>
    match afind a l with
    | some rest => some (.seq rest b)
    | none => afind b l
  | .label l', l => if l' == l then some .skip else none
  | _, _ => none
theorem find_cc (l : Nat) : ∀ (c : Code) (ac : ACode), ccode P N c = some ac → (∀ ar, afind ac l = some ar → ∃ rest, findLabel c l = some rest ∧ ccode P N rest = some ar) ∧ (afind ac l = none → findLabel c l = none) := by
  intro c
  induction c with
  | seq a b iha ihb =>
    intro ac hc
    simp only [ccode] at hc
    rw [Option.bind_eq_some_iff] at hc
    obtain ⟨x, hx, hc⟩ := hc
    rw [Option.map_eq_some_iff] at hc
    obtain ⟨y, hy, rfl⟩ := hc
    have ha := iha x hx
    have hb := ihb y hy
    cases h : afind x l with
    | some r =>
      obtain ⟨rest, h1, h2⟩ := ha.1 r h
      refine ⟨fun ar har => ?_, fun hn => ?_⟩
      · simp only [afind, h, Option.some.injEq] at har
        subst har
        exact ⟨.seq rest b, by simp [findLabel, h1], by simp [ccode, h2, hy]⟩
      · simp [afind, h] at hn
    | none =>
      have h1 := ha.2 h
      refine ⟨fun ar har => ?_, fun hn => ?_⟩
      · simp only [afind, h] at har
        obtain ⟨rest, h2, h3⟩ := hb.1 ar har
        exact ⟨rest, by simp [findLabel, h1, h2], h3⟩
      · simp only [afind, h] at hn
        simp [findLabel, h1, hb.2 hn]
  | label l' =>
    intro ac hc
    simp only [ccode, Option.some.injEq] at hc
    subst hc
    by_cases h : l' = l
    · subst h
      exact ⟨fun ar har => ⟨.skip, by simp [findLabel], by simp [afind] at har; subst har; rfl⟩, fun hn => by simp [afind] at hn⟩
    · exact ⟨fun ar har => by simp [afind, h] at har, fun _ => by simp [findLabel, h]⟩
  | region id ops draw =>
    intro ac hc
    refine ⟨fun ar har => ?_, fun _ => by simp [findLabel]⟩
    exfalso
    simp only [ccode] at hc
    rw [Option.bind_eq_some_iff] at hc
    obtain ⟨m, _, hc⟩ := hc
    split at hc
    · split at hc
      · generalize plan0 ops _ = o at hc
        cases o <;> cases hc <;> simp [afind, treeOf] at har
      · cases hc
    · cases hc; simp [afind] at har
  | cond c a b _ _ =>
    intro ac hc
    simp only [ccode] at hc
    rw [Option.bind_eq_some_iff] at hc
    obtain ⟨x, hx, hc⟩ := hc
    rw [Option.map_eq_some_iff] at hc
    obtain ⟨y, hy, rfl⟩ := hc
    exact ⟨fun ar har => by simp [afind] at har, fun _ => by simp [findLabel]⟩
  | block id a _ =>
    intro ac hc
    simp only [ccode] at hc
    rw [Option.map_eq_some_iff] at hc
    obtain ⟨y, hy, rfl⟩ := hc
    exact ⟨fun ar har => by simp [afind] at har, fun _ => by simp [findLabel]⟩
  | loop a _ =>
    intro ac hc
    simp only [ccode] at hc
    rw [Option.map_eq_some_iff] at hc
    obtain ⟨y, hy, rfl⟩ := hc
    exact ⟨fun ar har => by simp [afind] at har, fun _ => by simp [findLabel]⟩
  | scope a _ =>
    intro ac hc
    simp only [ccode] at hc
    rw [Option.map_eq_some_iff] at hc
    obtain ⟨y, hy, rfl⟩ := hc
    exact ⟨fun ar har => by simp [afind] at har, fun _ => by simp [findLabel]⟩
  | skip => intro ac hc; cases hc; exact ⟨fun ar har => by simp [afind] at har, fun _ => by simp [findLabel]⟩
  | exit id => intro ac hc; cases hc; exact ⟨fun ar har => by simp [afind] at har, fun _ => by simp [findLabel]⟩
  | goto id => intro ac hc; cases hc; exact ⟨fun ar har => by simp [afind] at har, fun _ => by simp [findLabel]⟩
  | ret => intro ac hc; cases hc; exact ⟨fun ar har => by simp [afind] at har, fun _ => by simp [findLabel]⟩
  | rangeFunc f ps x y _ _ => intro ac hc; cases hc; exact ⟨fun ar har => by simp [afind] at har, fun _ => by simp [findLabel]⟩
  | refuse why => intro ac hc; cases hc; exact ⟨fun ar har => by simp [afind] at har, fun _ => by simp [findLabel]⟩
/-- What the text of a scope owes: an exit; or a jump to the label, with the state that is told of there, and that the jumps end. -/
def Jump {α : Type} (l : Nat) (Inv : α → Prop) (I : α → AS) (m : α → Nat) (bd : Option Nat) (Q : Exit → AS → Prop) : Exit → AS → Prop
  | .goto l', s => l' = l ∧ ∃ x', Inv x' ∧ Weak s (I x') ∧ ∀ n, bd = some n → m x' < n
  | e, s => Q e s
theorem AW_goto {l : Nat} (h : Q (.goto l) s) : AW P N (.goto l) s Q := by
  intro code hc w0 mu a w hS
  cases code <;> simp only [ccode] at hc
  case region id ops draw =>
    rw [Option.bind_eq_some_iff] at hc
    obtain ⟨l, _, hc⟩ := hc
    split at hc
    · split at hc
      · generalize plan0 ops _ = o at hc; cases o <;> cases hc
      · cases hc
    · cases hc
  case seq => rw [Option.bind_eq_some_iff] at hc; obtain ⟨_, _, hc⟩ := hc; rw [Option.map_eq_some_iff] at hc; obtain ⟨_, _, hc⟩ := hc; cases hc
  case cond => rw [Option.bind_eq_some_iff] at hc; obtain ⟨_, _, hc⟩ := hc; rw [Option.map_eq_some_iff] at hc; obtain ⟨_, _, hc⟩ := hc; cases hc
  case block => rw [Option.map_eq_some_iff] at hc; obtain ⟨_, _, hc⟩ := hc; cases hc
  case scope => rw [Option.map_eq_some_iff] at hc; obtain ⟨_, _, hc⟩ := hc; cases hc
  case loop => rw [Option.map_eq_some_iff] at hc; obtain ⟨_, _, hc⟩ := hc; cases hc
  case goto l' => cases hc; exact wp_goto ⟨s, h, hS⟩
  all_goals cases hc
theorem AW_label {l : Nat} (h : Q .normal s) : AW P N (.label l) s Q := by
  intro code hc w0 mu a w hS
  cases code <;> simp only [ccode] at hc
  case region id ops draw =>
    rw [Option.bind_eq_some_iff] at hc
    obtain ⟨l, _, hc⟩ := hc
    split at hc
    · split at hc
      · generalize plan0 ops _ = o at hc; cases o <;> cases hc
      · cases hc
    · cases hc
  case seq => rw [Option.bind_eq_some_iff] at hc; obtain ⟨_, _, hc⟩ := hc; rw [Option.map_eq_some_iff] at hc; obtain ⟨_, _, hc⟩ := hc; cases hc
  case cond => rw [Option.bind_eq_some_iff] at hc; obtain ⟨_, _, hc⟩ := hc; rw [Option.map_eq_some_iff] at hc; obtain ⟨_, _, hc⟩ := hc; cases hc
  case block => rw [Option.map_eq_some_iff] at hc; obtain ⟨_, _, hc⟩ := hc; cases hc
  case scope => rw [Option.map_eq_some_iff] at hc; obtain ⟨_, _, hc⟩ := hc; cases hc
  case loop => rw [Option.map_eq_some_iff] at hc; obtain ⟨_, _, hc⟩ := hc; cases hc
  case label l' => exact wp_label ⟨s, h, hS⟩
  all_goals cases hc
theorem AW_scope {c rest : ACode} {α : Type} (l : Nat) (Inv : α → Prop) (I : α → AS) (m : α → Nat) (hfind : afind c l = some rest) (first : AW P N c s (Jump l Inv I m none Q))
    (pass : ∀ x, Inv x → AW P N rest (I x) (Jump l Inv I m (some (m x)) Q)) : AW P N (.scope c) s Q := by
  intro code hc w0 mu a w hS
  cases code <;> simp only [ccode] at hc
  case region id ops draw =>
    rw [Option.bind_eq_some_iff] at hc
    obtain ⟨l, _, hc⟩ := hc
    split at hc
    · split at hc
      · generalize plan0 ops _ = o at hc; cases o <;> cases hc
      · cases hc
    · cases hc
  case seq => rw [Option.bind_eq_some_iff] at hc; obtain ⟨_, _, hc⟩ := hc; rw [Option.map_eq_some_iff] at hc; obtain ⟨_, _, hc⟩ := hc; cases hc
  case cond => rw [Option.bind_eq_some_iff] at hc; obtain ⟨_, _, hc⟩ := hc; rw [Option.map_eq_some_iff] at hc; obtain ⟨_, _, hc⟩ := hc; cases hc
  case block => rw [Option.map_eq_some_iff] at hc; obtain ⟨_, _, hc⟩ := hc; cases hc
  case loop => rw [Option.map_eq_some_iff] at hc; obtain ⟨_, _, hc⟩ := hc; cases hc
  case scope p =>
    rw [Option.map_eq_some_iff] at hc
    obtain ⟨c', hc', hc⟩ := hc
    cases hc
    obtain ⟨rest', hf', hr'⟩ := (find_cc l p _ hc').1 _ hfind
    intro b k cs
    have hg : gotoIn l (.inScope p :: k) = some (.code rest' :: .inScope p :: k) := by simp [gotoIn, hf']
    have key : ∀ n x a w, m x = n → Inv x → Simw w0 mu N (I x) a w →
        ∃ e a' w', After w0 mu N (Q e) a' w' ∧ Arrives P (lone (b.at a (.code rest' :: .inScope p :: k)) cs w) b k cs e a' w' := by
      intro n
      induction n using Nat.strongRecOn with
      | _ n ih =>
        intro x a w hn hx hS
        obtain ⟨e, a₁, w₁, hq, harr⟩ := pass x hx rest' hr' w0 mu a w hS b (.inScope p :: k) cs
        obtain ⟨s', h1, h2⟩ := hq
        cases e with
        | normal => exact ⟨.normal, a₁, w₁, ⟨s', h1, h2⟩, Steps.trans harr (.one step_inScope)⟩
        | exit id => exact ⟨.exit id, a₁, w₁, ⟨s', h1, h2⟩, fun k' hk => harr k' (by simp [exitTo, hk])⟩
        | goto l' =>
          obtain ⟨rfl, x', hx', hwk, hlt⟩ := h1
          obtain ⟨e₂, a₂, w₂, hq₂, harr₂⟩ := ih (m x') (by rw [← hn]; exact hlt _ rfl) x' a₁ w₁ rfl hx' (hwk _ _ _ _ _ h2)
          exact ⟨e₂, a₂, w₂, hq₂, .of_steps (harr _ hg) harr₂⟩
        | ret => exact ⟨_, a₁, w₁, ⟨s', h1, h2⟩, harr⟩
        | panic ch => exact ⟨_, a₁, w₁, ⟨s', h1, h2⟩, harr⟩
        | outgrown => exact ⟨_, a₁, w₁, ⟨s', h1, h2⟩, harr⟩
    obtain ⟨e, a₁, w₁, hq, harr⟩ := first p hc' w0 mu a w hS b (.inScope p :: k) cs
    obtain ⟨s', h1, h2⟩ := hq
    cases e with
    | normal => exact ⟨.normal, a₁, w₁, ⟨s', h1, h2⟩, .head step_scope (Steps.trans harr (.one step_inScope))⟩
    | exit id => exact ⟨.exit id, a₁, w₁, ⟨s', h1, h2⟩, fun k' hk => .head step_scope (harr k' (by simp [exitTo, hk]))⟩
    | goto l' =>
      obtain ⟨rfl, x', hx', hwk, _⟩ := h1
      obtain ⟨e₂, a₂, w₂, hq₂, harr₂⟩ := key (m x') x' a₁ w₁ rfl hx' (hwk _ _ _ _ _ h2)
      exact ⟨e₂, a₂, w₂, hq₂, .of_steps (.head step_scope (harr _ hg)) harr₂⟩
    | ret => exact ⟨_, a₁, w₁, ⟨s', h1, h2⟩, .of_steps (.one step_scope) harr⟩
    | panic ch => exact ⟨_, a₁, w₁, ⟨s', h1, h2⟩, .of_steps (.one step_scope) harr⟩
    | outgrown => exact ⟨_, a₁, w₁, ⟨s', h1, h2⟩, .of_steps (.one step_scope) harr⟩
  all_goals cases hc
/-- What a round of a loop owes: an exit, or the next round's state, and that it ends. -/
def Round {α : Type} (Inv : α → Prop) (I : α → AS) (m : α → Nat) (x : α) (Q : Exit → AS → Prop) : Exit → AS → Prop
  | .normal, s => ∃ x', Inv x' ∧ Weak s (I x') ∧ m x' < m x
  | e, s => Q e s
theorem AW_loop {c : ACode} {α : Type} (Inv : α → Prop) (I : α → AS) (m : α → Nat) (x0 : α) (h0 : Inv x0) (hw : Weak s (I x0)) (round : ∀ x, Inv x → AW P N c (I x) (Round Inv I m x Q)) : AW P N (.loop c) s Q := by
  intro code hc w0 mu a w hS
  cases code <;> simp only [ccode] at hc
  case region id ops draw =>
    rw [Option.bind_eq_some_iff] at hc
    obtain ⟨l, _, hc⟩ := hc
    split at hc
    · split at hc
      · generalize plan0 ops _ = o at hc; cases o <;> cases hc
      · cases hc
    · cases hc
  case seq => rw [Option.bind_eq_some_iff] at hc; obtain ⟨_, _, hc⟩ := hc; rw [Option.map_eq_some_iff] at hc; obtain ⟨_, _, hc⟩ := hc; cases hc
  case cond => rw [Option.bind_eq_some_iff] at hc; obtain ⟨_, _, hc⟩ := hc; rw [Option.map_eq_some_iff] at hc; obtain ⟨_, _, hc⟩ := hc; cases hc
  case block => rw [Option.map_eq_some_iff] at hc; obtain ⟨_, _, hc⟩ := hc; cases hc
  case scope => rw [Option.map_eq_some_iff] at hc; obtain ⟨_, _, hc⟩ := hc; cases hc
  case loop p =>
    rw [Option.map_eq_some_iff] at hc
    obtain ⟨c', hc', hc⟩ := hc
    cases hc
    intro b k cs
    have key : ∀ n x a w, m x = n → Inv x → Simw w0 mu N (I x) a w →
        ∃ e a' w', After w0 mu N (Q e) a' w' ∧ Arrives P (lone (b.at a (.code p :: .inLoop p :: k)) cs w) b k cs e a' w' := by
      intro n
      induction n using Nat.strongRecOn with
      | _ n ih =>
        intro x a w hn hx hS
        obtain ⟨e, a₁, w₁, hq, harr⟩ := round x hx p hc' w0 mu a w hS b (.inLoop p :: k) cs
        obtain ⟨s', h1, h2⟩ := hq
        cases e with
        | normal =>
          obtain ⟨x', hx', hwk, hlt⟩ := h1
          obtain ⟨e₂, a₂, w₂, hq₂, harr₂⟩ := ih (m x') (hn ▸ hlt) x' a₁ w₁ rfl hx' (hwk _ _ _ _ _ h2)
          exact ⟨e₂, a₂, w₂, hq₂, .of_steps (Steps.trans harr (.one step_inLoop)) harr₂⟩
        | exit id => exact ⟨_, a₁, w₁, ⟨s', h1, h2⟩, .pass (x := .inLoop p) rfl (fun _ _ => .inl (by simp)) harr⟩
        | goto l => exact ⟨_, a₁, w₁, ⟨s', h1, h2⟩, .pass (x := .inLoop p) rfl (fun _ _ => .inl (by simp)) harr⟩
        | ret => exact ⟨_, a₁, w₁, ⟨s', h1, h2⟩, .pass (x := .inLoop p) rfl (fun _ _ => .inl (by simp)) harr⟩
        | panic ch => exact ⟨_, a₁, w₁, ⟨s', h1, h2⟩, .pass (x := .inLoop p) rfl (fun _ _ => .inl (by simp)) harr⟩
        | outgrown => exact ⟨_, a₁, w₁, ⟨s', h1, h2⟩, .pass (x := .inLoop p) rfl (fun _ _ => .inl (by simp)) harr⟩
    obtain ⟨e, a', w', hq, harr⟩ := key _ x0 a w rfl h0 (hw _ _ _ _ _ hS)
    exact ⟨e, a', w', hq, .of_steps (.one step_loop) harr⟩
  all_goals cases hc
/-- A state told by its slots and its regions; all other slots may hold anything. -/
def look {β : Type} : List (Nat × β) → Nat → Option β
  | [], _ => none
  | (k, x) :: l, t => if t = k then some x else look l t
def st (l : List (Nat × AV)) (h : List (Nat × (Bool × List AV))) : AS := ⟨fun t => (look l t).getD .any, look h⟩
def Has (s : AS) : List (Nat × AV) → Prop
  | [] => True
  | (t, x) :: l => s.tm t = x ∧ Has s l
def HasR (s : AS) : List (Nat × (Bool × List AV)) → Prop
  | [] => True
  | (r, c) :: l => s.hp r = some c ∧ HasR s l
def refsT (keep : Nat → Bool) : List (Nat × AV) → Bool
  | [] => true
  | (_, x) :: l => refsV keep x && refsT keep l
def refsH (keep : Nat → Bool) : List (Nat × (Bool × List AV)) → Bool
  | [] => true
  | (_, (fl, cs)) :: l => (fl || refsL keep cs) && refsH keep l
theorem look_has {s : AS} : ∀ {l : List (Nat × AV)} {t : Nat} {x : AV}, Has s l → look l t = some x → s.tm t = x
  | [], _, _, _, h => by simp [look] at h
  | (k, y) :: l, t, x, h, e => by
    simp only [look] at e
    split at e
    · rename_i hk; subst hk; cases e; exact h.1
    · exact look_has h.2 e
theorem look_hasR {s : AS} : ∀ {l : List (Nat × (Bool × List AV))} {t : Nat} {x : Bool × List AV}, HasR s l → look l t = some x → s.hp t = some x
  | [], _, _, _, h => by simp [look] at h
  | (k, y) :: l, t, x, h, e => by
    simp only [look] at e
    split at e
    · rename_i hk; subst hk; cases e; exact h.1
    · exact look_hasR h.2 e
theorem look_refs {keep : Nat → Bool} : ∀ {l : List (Nat × AV)} {t : Nat} {x : AV}, refsT keep l = true → look l t = some x → refsV keep x = true
  | [], _, _, _, h => by simp [look] at h
  | (k, y) :: l, t, x, h, e => by
    simp only [look, refsT, Bool.and_eq_true] at e h
    split at e
    · cases e; exact h.1
    · exact look_refs h.2 e
theorem look_refsH {keep : Nat → Bool} : ∀ {l : List (Nat × (Bool × List AV))} {t : Nat} {fl : Bool} {cs : List AV}, refsH keep l = true → look l t = some (fl, cs) → (fl || refsL keep cs) = true
  | [], _, _, _, _, h => by simp [look] at h
  | (k, (f, c)) :: l, t, fl, cs, h, e => by
    simp only [look, refsH, Bool.and_eq_true] at e h
    split at e
    · cases e; exact h.1
    · exact look_refsH h.2 e
/-- What is not told is forgotten. -/
theorem weak_st {s : AS} {l : List (Nat × AV)} {h : List (Nat × (Bool × List AV))} (hl : Has s l) (hh : HasR s h) (hr : refsT (fun r => (look h r).isSome) l = true) (hrh : refsH (fun r => (look h r).isSome) h = true) : Weak s (st l h) := by
  intro w0 mu N a w hS
  obtain ⟨hf, phi, ro, hS⟩ := hS
  have hlive : ∀ r, ((st l h).hp r).isSome = true → (s.hp r).isSome = true := by
    intro r hr
    obtain ⟨c, hc⟩ := Option.isSome_iff_exists.1 hr
    rw [look_hasR hh hc]; rfl
  have hle : (ctx w0 w ro phi s).LeOn (fun r => (look h r).isSome) (ctx w0 w ro phi (st l h)) :=
    ⟨fun b hb => ⟨hb, rfl⟩, Nat.le_refl _, id, fun _ r hk _ => ⟨hk, rfl⟩, fun _ _ b cur e _ _ _ hb => ⟨cur, hb, Nat.le_refl _⟩⟩
  refine ⟨hf, phi, ro, { hS with
    inj := fun r r' b h1 h2 => hS.inj r r' b (hlive r h1) (hlive r' h2)
    liv := fun r c hc => ?_
    tms := fun t => ?_ }⟩
  · rcases hS.liv r c (look_hasR hh hc) with h1 | ⟨b, cur, e, h1, h2, h3, h4, h5⟩ | h1
    · exact .inl h1
    case inr.inr => exact .inr (.inr h1)
    · refine .inr (.inl ⟨b, cur, e, h1, h2, h3, h4, ?_⟩)
      obtain ⟨fl, cs⟩ := c
      have := look_refsH hrh hc
      unfold SimR at *
      cases fl
      · exact SimL.on _ _ _ _ _ hle (by simpa using this) h5
      · exact SimL.mono _ _ _ _ (hle.out _) h5
  · show SimV ((look l t).getD .any) _ _
    cases hx : look l t with
    | none => simp [SimV]
    | some x =>
      have h1 := hS.tms t
      rw [look_has hl hx] at h1
      exact SimV.on _ _ _ _ _ hle (look_refs hr hx) h1
/-- What a call hands out is of new memory alone. -/
def Outs (s : AS) (x res : AV) : Prop :=
  ∀ w0 N tm w phi ro y, Sim w0 (fun _ => none) N s tm w phi ro → SimV x (ctx w0 w ro phi s) y → SimV res (fresh w0 w) y
def enter0 (asx : List AV) : AS := ⟨fun t => (asx[t]?).getD .any, fun _ => none⟩
theorem enter0_sim {w : World} {asx : List AV} {vs : Array Value} {n : Nat} (hg : GoodW w) (h : Entry w asx vs.toList) : Sim w (fun _ => none) (min n pbase) (enter0 asx) (vs ++ Array.replicate (n - vs.size) undef) w (fun _ => none) (fun b => b < w.heap.size) where
  os := rfl
  tape := rfl
  output := rfl
  size := Nat.le_refl _
  kept := fun _ _ _ => rfl
  shp := fun b cur e f hb => ⟨cur, hb, rfl⟩
  npb := Nat.min_le_right _ _
  gd := ⟨hg, fun r b h => by simp at h⟩
  rob := fun _ hb => hb
  inj := fun r r' b h1 => by simp [enter0] at h1
  liv := fun r c hc => by simp [enter0] at hc
  tms := fun t => by
    obtain ⟨hs, hlen⟩ := h
    simp only [enter0]
    cases hx : asx[t]? with
    | none => simp [SimV]
    | some x =>
      obtain ⟨y, hy, hsy⟩ := hs.get hx
      have hlt : t < vs.size := by
        have := (List.getElem?_eq_some_iff.1 hy).1
        simpa using this
      have hy' : vs[t] = y := by
        have := (List.getElem?_eq_some_iff.1 hy).2
        simpa using this
      have : (vs ++ Array.replicate (n - vs.size) undef).getD t undef = y := by
        simp [Array.getD_eq_getD_getElem?, Array.getElem?_append, hlt, hy']
      rw [this]
      have hle : ({ heap := w.heap, ro := fun b => b < w.heap.size, base := w.heap.size, phi := fun _ => none, live := fun _ => false, loc := false } : Ctx).Le (ctx w w (fun b => b < w.heap.size) (fun _ => none) (enter0 asx)) :=
        ⟨fun b hb => ⟨hb, rfl⟩, Nat.le_refl _, fun e => by simp at e, fun e => by simp at e, fun e => by simp at e⟩
      exact SimV.mono _ _ _ _ hle hsy
  slots := by simp; omega
/-- The slots of the results. -/
def resTmps (fn : Func) : Option (List Nat) := fn.results.toList.mapM fun r => match r with | .tmp t => some t | .cell _ _ => none
def resOne (tmps : Array Value) : ResultVar → Sem Value
  | .tmp t => pure (tmps.getD t undef)
  | .cell a t => do loadVar t (← asAddr (tmps.getD a undef))
def resVal (tmps : Array Value) : List Nat → Value
  | [t] => tmps.getD t undef
  | ts => .tuple (ts.map fun t => tmps.getD t undef).toArray
theorem run_resOne (tmps : Array Value) (w : World) (P : Program) : ∀ (l : List ResultVar) (ts : List Nat), (l.mapM fun r => match r with | .tmp t => some t | .cell _ _ => none) = some ts →
    (l.mapM (m := Sem) (resOne tmps)).run P w = .ok (ts.map fun t => tmps.getD t undef) w
  | [], ts, h => by simp at h; subst h; simp
  | r :: l, ts, h => by
    rw [List.mapM_cons] at h
    simp only [Option.bind_eq_bind, Option.bind_eq_some_iff, Option.pure_def, Option.some.injEq] at h
    obtain ⟨t, h1, ts', h2, rfl⟩ := h
    cases r with
    | cell a t => simp at h1
    | tmp t' =>
      simp at h1
      subst h1
      rw [List.mapM_cons]
      simp only [resOne, Sem.run_bind, Sem.run_pure, Result.andThen_ok, run_resOne tmps w P l ts' h2, List.map_cons]
theorem run_results {fn : Func} {ts : List Nat} (h : resTmps fn = some ts) (tmps : Array Value) (w : World) (P : Program) : (results fn tmps).run P w = .ok (resVal tmps ts) w := by
  have hr : results fn tmps = (do let vs ← fn.results.mapM (resOne tmps); pure (if h : vs.size = 1 then vs[0] else .tuple vs)) := rfl
  have hm : (fn.results.mapM (m := Sem) (resOne tmps)).run P w = .ok (ts.map fun t => tmps.getD t undef).toArray w := by
    rw [Array.mapM_eq_mapM_toList, Sem.run_map, run_resOne tmps w P _ _ h]
    simp
  rw [hr, Sem.run_bind, hm]
  simp only [Result.andThen_ok, Sem.run_pure]
  congr 1
  match ts with
  | [] => simp [resVal]
  | [t] => simp [resVal]
  | t :: u :: ts => simp [resVal]
/-- The results' slots, all told. -/
def resAV (s : AS) : List Nat → AV
  | [t] => s.tm t
  | ts => .tup (ts.map s.tm)
def Done (ts : List Nat) (res : AV) : Exit → AS → Prop
  | .normal, s | .ret, s => Outs s (resAV s ts) res
  | _, _ => False
theorem simv_res {w0 w : World} {mu : Nat → Option Nat} {s : AS} {tm : Array Value} {phi : Nat → Option Nat} {ro : Nat → Prop} (hS : Sim w0 mu N s tm w phi ro) (ts : List Nat) : SimV (resAV s ts) (ctx w0 w ro phi s) (resVal tm ts) := by
  match ts with
  | [t] => exact hS.tms t
  | [] => simp [resAV, resVal, SimV, SimL]
  | t :: u :: ts =>
    simp only [resAV, resVal, SimV]
    refine ⟨_, rfl, by simp, ?_⟩
    have key : ∀ l : List Nat, SimL (l.map s.tm) (ctx w0 w ro phi s) (l.map fun t => tm.getD t undef) := by
      intro l
      induction l with
      | nil => simp [SimL]
      | cons t l ih => simp only [List.map_cons, SimL]; exact ⟨hS.tms t, ih⟩
    exact key _
/-- A FUNCTION's CONTRACT, out of its body. -/
theorem spec_of {f : FuncId} {fn : Func} {code : Code} {ac : ACode} {ts : List Nat} {asx : List AV} {res : AV} (hf : P.funcs[f]? = some fn) (hb : fn.body = some code) (hc : ccode P (min fn.ntmps pbase) code = some ac) (hr : resTmps fn = some ts)
    (h : AW P (min fn.ntmps pbase) ac (enter0 asx) (Done ts res)) : Sp P f asx res := by
  intro w vs hg hent
  refine calls_of_wp hf hb (wp_mono (h code hc w (fun _ => none) _ w ⟨rfl, _, _, enter0_sim hg hent⟩) fun e a' w' hA => ?_)
  obtain ⟨s', h1, hf', phi, ro, hS⟩ := hA
  have fin : Outs s' (resAV s' ts) res → a'.defers = [] ∧ ∃ v, (results fn a'.tmps).run P w' = .ok v w' ∧ ∃ v', Ending.returned v = .returned v' ∧ More w w' ∧ SimV res (fresh w w') v' := by
    intro ho
    refine ⟨hf', _, run_results hr a'.tmps w' P, _, rfl, ⟨hS.os, hS.tape, hS.output, hS.size, fun b hb => hS.kept b hb (fun r => by simp)⟩, ho w (min fn.ntmps pbase) a'.tmps w' phi ro _ hS (simv_res hS ts)⟩
  cases e with
  | normal => exact fin h1
  | ret => exact fin h1
  | exit id => exact h1.elim
  | goto l => exact h1.elim
  | panic c => exact h1.elim
  | outgrown => exact h1.elim
def DoneM (ts : List Nat) (res : AV) (cs' : List AV) : Exit → AS → Prop
  | .normal, s | .ret, s => resAV s ts = res ∧ s.hp pbase = some (true, cs')
  | _, _ => False
end Go.Am
namespace Go.Am
variable [Go.Am.CodeBlk]
variable {P : Program} {own : Bool} {N : Nat} {s : AS} {K : AS → Prop} {d : Option Nat}
abbrev AV.i (n : Int) : AV := .v (.int .i64 n)
abbrev AV.b (b : Bool) : AV := .v (.bool b)
/-- A slice of integers that is read. -/
abbrev ints (l : List Int) : AV := .ro false 1 (l.map AV.i) l.length
/-- A slice of integers of new memory. -/
abbrev newInts (l : List Int) : AV := .ro true 1 (l.map AV.i) l.length
theorem step_ops {o : AOper} {l : List AOper} {Q : AS → Prop} (h : aop1 P own o s fun s' => aops P own l s' Q) : aops P own (o :: l) s Q := ⟨s, Weak.refl s, h⟩
theorem weak_ops {l : List AOper} {o : AOper} {s' : AS} {Q : AS → Prop} (h : Weak s s') (k : aops P own (o :: l) s' Q) : aops P own (o :: l) s Q := by
  obtain ⟨s1, h1, h2⟩ := k
  exact ⟨s1, h.trans h1, h2⟩
theorem end_ops {Q : AS → Prop} (h : Q s) : aops P own [] s Q := h
theorem step_tree {o : AOper} {t : ATree} {R : AS → Prop} (h : aop1 P false o s fun s' => atree P t s' R) : atree P (.take o t) s R := h
theorem end_tree {R : AS → Prop} (h : R s) : atree P .done s R := h
section
variable {x y z : Opd}
theorem m_mov {v : AV} (h : s.ev x = v) (k : K (s.put d v)) : aop1 P own ⟨d, .mov x, none⟩ s K := by subst h; exact k
theorem m_nils {r c : Nat} (k : K (((s.kill r).mem r (true, [])).put (some r) (.sl r c 0 0))) : aop1 P own ⟨some r, .nils c, none⟩ s K := .inr ⟨r, rfl, k⟩
theorem m_pick_t {b : Bool} {v : AV} (hc : s.ev x = .b b) (hb : b = true) (h : s.ev y = v) (k : K (s.put d v)) : aop1 P own ⟨d, .pick x y z, none⟩ s K := by
  subst h; subst hb; exact ⟨true, hc, fun _ => k, fun e => by cases e⟩
theorem m_pick_f {b : Bool} {v : AV} (hc : s.ev x = .b b) (hb : b = false) (h : s.ev z = v) (k : K (s.put d v)) : aop1 P own ⟨d, .pick x y z, none⟩ s K := by
  subst h; subst hb; exact ⟨false, hc, (fun e => by cases e), fun _ => k⟩
theorem m_not {b : Bool} (h : s.ev x = .b b) (k : K (s.put d (.b (!b)))) : aop1 P own ⟨d, .not x, none⟩ s K := ⟨b, h, k⟩
theorem m_add {a b : Int} (hx : s.ev x = .i a) (hy : s.ev y = .i b) (h1 : -9223372036854775808 ≤ a + b) (h2 : a + b ≤ 9223372036854775807) (k : K (s.put d (.i (a + b)))) : aop1 P own ⟨d, .bin .add x y, none⟩ s K := by
  refine ⟨_, _, _, hx, hy, rfl, ?_⟩
  rw [show IntKind.i64.wrap (a + b) = a + b from by rw [IntKind.wrap_i64]; omega]
  exact k
theorem m_sub {a b : Int} (hx : s.ev x = .i a) (hy : s.ev y = .i b) (h1 : -9223372036854775808 ≤ a - b) (h2 : a - b ≤ 9223372036854775807) (k : K (s.put d (.i (a - b)))) : aop1 P own ⟨d, .bin .sub x y, none⟩ s K := by
  refine ⟨_, _, _, hx, hy, rfl, ?_⟩
  rw [show IntKind.i64.wrap (a - b) = a - b from by rw [IntKind.wrap_i64]; omega]
  exact k
theorem m_mul {a b : Int} (hx : s.ev x = .i a) (hy : s.ev y = .i b) (h1 : -9223372036854775808 ≤ a * b) (h2 : a * b ≤ 9223372036854775807) (k : K (s.put d (.i (a * b)))) : aop1 P own ⟨d, .bin .mul x y, none⟩ s K := by
  refine ⟨_, _, _, hx, hy, rfl, ?_⟩
  rw [show IntKind.i64.wrap (a * b) = a * b from by rw [IntKind.wrap_i64]; omega]
  exact k
theorem m_quo {a b : Int} (hx : s.ev x = .i a) (hy : s.ev y = .i b) (h0 : 0 ≤ a) (h1 : 0 < b) (h2 : a ≤ 9223372036854775807) (k : K (s.put d (.i (a / b)))) : aop1 P own ⟨d, .bin .quo x y, none⟩ s K := by
  have hb : b ≠ 0 := by omega
  refine ⟨_, _, _, hx, hy, by simp only [pbin, if_true, hb, if_false]; rfl, ?_⟩
  have e1 : a.tdiv b = a / b := Int.tdiv_eq_ediv_of_nonneg h0
  have e2 : 0 ≤ a / b := Int.ediv_nonneg h0 (by omega)
  have e3 : a / b ≤ a := Int.ediv_le_self _ h0
  rw [e1, show IntKind.i64.wrap (a / b) = a / b from by rw [IntKind.wrap_i64]; omega]
  exact k
theorem m_rem {a b : Int} (hx : s.ev x = .i a) (hy : s.ev y = .i b) (h0 : 0 ≤ a) (h1 : 0 < b) (k : K (s.put d (.i (a % b)))) : aop1 P own ⟨d, .bin .rem x y, none⟩ s K := by
  have hb : b ≠ 0 := by omega
  refine ⟨_, _, _, hx, hy, by simp only [pbin, if_true, hb, if_false]; rfl, ?_⟩
  rw [Int.tmod_eq_emod_of_nonneg h0]
  exact k
theorem m_eql {a b : Int} (hx : s.ev x = .i a) (hy : s.ev y = .i b) (k : K (s.put d (.b (decide (a = b))))) : aop1 P own ⟨d, .bin .eql x y, none⟩ s K := by
  refine ⟨_, _, _, hx, hy, rfl, ?_⟩
  rw [show (a == b) = decide (a = b) from rfl]
  exact k
theorem m_neq {a b : Int} (hx : s.ev x = .i a) (hy : s.ev y = .i b) (k : K (s.put d (.b (decide (a ≠ b))))) : aop1 P own ⟨d, .bin .neq x y, none⟩ s K := by
  refine ⟨_, _, _, hx, hy, rfl, ?_⟩
  rw [show (a != b) = decide (a ≠ b) from by by_cases h : a = b <;> simp [h]]
  exact k
theorem m_lss {a b : Int} (hx : s.ev x = .i a) (hy : s.ev y = .i b) (k : K (s.put d (.b (decide (a < b))))) : aop1 P own ⟨d, .bin .lss x y, none⟩ s K := ⟨_, _, _, hx, hy, rfl, k⟩
theorem m_leq {a b : Int} (hx : s.ev x = .i a) (hy : s.ev y = .i b) (k : K (s.put d (.b (decide (a ≤ b))))) : aop1 P own ⟨d, .bin .leq x y, none⟩ s K := ⟨_, _, _, hx, hy, rfl, k⟩
theorem m_gtr {a b : Int} (hx : s.ev x = .i a) (hy : s.ev y = .i b) (k : K (s.put d (.b (decide (b < a))))) : aop1 P own ⟨d, .bin .gtr x y, none⟩ s K := ⟨_, _, _, hx, hy, rfl, k⟩
theorem m_geq {a b : Int} (hx : s.ev x = .i a) (hy : s.ev y = .i b) (k : K (s.put d (.b (decide (b ≤ a))))) : aop1 P own ⟨d, .bin .geq x y, none⟩ s K := ⟨_, _, _, hx, hy, rfl, k⟩
theorem m_beq {ne a b : Bool} (hx : s.ev x = .b a) (hy : s.ev y = .b b) (k : K (s.put d (.b (ne ^^ (a == b))))) : aop1 P own ⟨d, .beq ne x y, none⟩ s K := ⟨_, _, hx, hy, k⟩
theorem m_isnil_ro {fr : Bool} {c n : Nat} {cs : List AV} {ne : Bool} (h : s.ev x = .ro fr c cs n) (h0 : 0 < n) (k : K (s.put d (.b ne))) : aop1 P own ⟨d, .isnil ne x, none⟩ s K := .inr ⟨n, .inr (.inl ⟨fr, c, cs, h⟩), fun _ => k, fun e => by omega⟩
theorem m_len_sl {r c off n : Nat} (h : s.ev x = .sl r c off n) (k : K (s.put d (.i n))) : aop1 P own ⟨d, .len x, none⟩ s K := .inl ⟨r, c, off, n, h, k⟩
theorem m_len_ro {fr : Bool} {c n : Nat} {cs : List AV} (h : s.ev x = .ro fr c cs n) (k : K (s.put d (.i n))) : aop1 P own ⟨d, .len x, none⟩ s K := .inr (.inl ⟨fr, c, cs, n, h, k⟩)
theorem m_idx_sl {r c off n : Nat} {j : Int} (hx : s.ev x = .sl r c off n) (hj : s.ev y = .i j) (h0 : 0 ≤ j) (h1 : j < n) (k : K (s.put d (.pt r (off + j.toNat * c)))) : aop1 P own ⟨d, .idx c x y, none⟩ s K :=
  ⟨_, j, hj, h0, .inl ⟨r, off, n, hx, h1, k⟩⟩
theorem m_idx_ro {fr : Bool} {c n : Nat} {cs : List AV} {j : Int} (hx : s.ev x = .ro fr c cs n) (hj : s.ev y = .i j) (h0 : 0 ≤ j) (h1 : j < n) (k : K (s.put d (.rp (cs.drop (j.toNat * c))))) : aop1 P own ⟨d, .idx c x y, none⟩ s K :=
  ⟨_, j, hj, h0, .inr (.inl ⟨fr, cs, n, hx, h1, k⟩)⟩
theorem m_idx1_ro {fr : Bool} {n j : Nat} {cs : List AV} (hx : s.ev x = .ro fr 1 cs n) (hj : s.ev y = .i (j : Nat)) (h1 : j < n) (k : K (s.put d (.rp (cs.drop j)))) : aop1 P own ⟨d, .idx 1 x y, none⟩ s K :=
  m_idx_ro hx hj (by omega) (by omega) (by rw [Int.toNat_natCast, Nat.mul_one]; exact k)
theorem m_idx1_sl {r n j : Nat} (hx : s.ev x = .sl r 1 0 n) (hj : s.ev y = .i (j : Nat)) (h1 : j < n) (k : K (s.put d (.pt r j))) : aop1 P own ⟨d, .idx 1 x y, none⟩ s K :=
  m_idx_sl hx hj (by omega) (by omega) (by rw [Int.toNat_natCast, Nat.mul_one, Nat.zero_add]; exact k)
theorem m_ld_pt {r off : Nat} {fl : Bool} {cs : List AV} {c : AV} (hx : s.ev x = .pt r off) (hr : s.hp r = some (fl, cs)) (hc : cs[off]? = some c) (k : K (s.put d c)) : aop1 P own ⟨d, .ld none x, none⟩ s K :=
  .inl ⟨r, off, fl, cs, c, hx, hr, hc, k⟩
theorem m_ld_rp {cs : List AV} {c : AV} (hx : s.ev x = .rp cs) (hc : cs[0]? = some c) (k : K (s.put d c)) : aop1 P own ⟨d, .ld none x, none⟩ s K := .inr ⟨cs, c, hx, hc, k⟩
theorem m_st {r off : Nat} {fl : Bool} {cs : List AV} {v : AV} (hx : s.ev x = .pt r off) (hr : s.hp r = some (fl, cs)) (hy : s.ev y = v) (hoff : off < cs.length) (hok : cellOk fl v = true) (k : K (s.mem r (fl, cs.set off v))) :
    aop1 P own ⟨d, .st 1 x y, none⟩ s K := by subst hy; exact ⟨r, off, fl, cs, hx, hr, .inl ⟨rfl, hoff, hok, k⟩⟩
theorem m_mk {r c bs : Nat} {zero : List Value} {n : Nat} (hx : s.ev x = .i n) (hy : s.ev y = .i n) (h1 : (bs : Int) * n ≤ 281474976710656) (h2 : (n : Int) ≤ 9223372036854775807)
    (k : K (((s.kill r).mem r (true, (List.replicate n (zero.map AV.v)).flatten)).put (some r) (.sl r c 0 n))) : aop1 P own ⟨some r, .mk c bs zero x y, none⟩ s K :=
  ⟨r, _, _, n, n, rfl, hx, hy, by omega, Int.le_refl _, h1, h2, by rw [Int.toNat_natCast]; exact k⟩
theorem m_call {f : FuncId} {args : List Opd} {asx : List AV} {res : AV} (hs : Sp P f asx res) (hl : Lends s.hp (args.map s.ev) asx) (k : K (s.put d res)) : aop1 P own ⟨d, .call f args, none⟩ s K := .inl ⟨asx, res, hs, hl, .inl k⟩
theorem m_callo {f : FuncId} {args : List Opd} {asx : List AV} {r c n : Nat} {cs : List AV} (hs : Sp P f asx (.ro true c cs n)) (hl : Lends s.hp (args.map s.ev) asx) (hall : cs.all plainV = true)
    (k : K (((s.kill r).mem r (true, cs)).put (some r) (.sl r c 0 n))) : aop1 P true ⟨some r, .call f args, none⟩ s K := .inl ⟨asx, _, hs, hl, .inr ⟨rfl, r, c, cs, n, rfl, hall, .inl ⟨rfl, k⟩⟩⟩
theorem m_ext {l : List AV} {c : AV} {i : Nat} (hx : s.ev x = .tup l) (hc : l[i]? = some c) (k : K (s.put d c)) : aop1 P own ⟨d, .ext x i, none⟩ s K := ⟨l, c, hx, hc, k⟩
theorem m_alloc {r : Nat} {zero : List Value} (k : K (((s.kill r).mem r (true, zero.map AV.v)).put (some r) (.pt r 0))) : aop1 P own ⟨some r, .alloc zero, none⟩ s K := ⟨r, true, rfl, k⟩
theorem m_cut_sl {r c off n l h : Nat} {lo hi : Option Opd} (hx : s.ev x = .sl r c off n) (hl : Bnd s lo l 0) (hh : Bnd s hi h n) (h1 : l ≤ h) (h2 : h ≤ n)
    (k : K (s.put d (.sl r c (off + l * c) (h - l)))) : aop1 P own ⟨d, .cut c x lo hi, none⟩ s K := ⟨l, h, hl, .inl ⟨r, off, n, hx, hh, h1, h2, k⟩⟩
theorem m_app {q r n m c bs : Nat} {fl : Bool} {cs ys : List AV} (hx : s.ev x = .sl r c 0 n) (hp : r < pbase) (hr : s.hp r = some (fl, cs)) (hl : cs.length = n * c) (hy : Elems s.hp c (s.ev y) m ys) (hok : ys.all (cellOk fl) = true)
    (h1 : n + m ≤ maxLen) (h2 : (n + m) * bs ≤ 140737488355328) (k : K ((((s.kill r).kill q).mem q (killR q (killR r (fl, cs ++ ys)))).put (some q) (.sl q c 0 (n + m)))) : aop1 P own ⟨some q, .app c bs x y, none⟩ s K :=
  .inl ⟨q, r, n, m, fl, cs, ys, rfl, hx, hp, hr, hl, hy, hok, h1, h2, k⟩
/-- A slice literal of one cell an element, each told. -/
theorem m_bsl {r c n : Nat} {zero : List Value} {parts : List (Nat × Opd)} {fl : Bool} {out : List AV} (hf : afill s c fl ((List.replicate n (zero.map AV.v)).flatten) parts out)
    (k : K (((s.kill r).mem r (killR r (fl, out))).put (some r) (.sl r c 0 n))) : aop1 P own ⟨some r, .bsl c n zero parts, none⟩ s K := ⟨r, fl, out, rfl, hf, k⟩
theorem m_fa {r o off : Nat} (hx : s.ev x = .pt r o) (k : K (s.put d (.pt r (o + off)))) : aop1 P own ⟨d, .fa off x, none⟩ s K := .inl ⟨r, o, hx, k⟩
end
/-- A guarded operation whose guard says yes, no. -/
theorem g_yes {op : AOp} {t : Nat} {w b : Bool} (h : s.tm t = .b b) (hb : b = w) (k : aop1 P own ⟨d, op, none⟩ s K) : aop1 P own ⟨d, op, some (t, w)⟩ s K :=
  .inl ⟨b, h, fun _ => k, fun e => by subst hb; cases b <;> simp at e⟩
theorem g_no {op : AOp} {t : Nat} {w b : Bool} (h : s.tm t = .b b) (hb : b = !w) (k : K (s.put d (.v undef))) : aop1 P own ⟨d, op, some (t, w)⟩ s K :=
  .inl ⟨b, h, fun e => by subst hb; cases w <;> simp at e, fun _ => k⟩
theorem nt {p : Prop} [Decidable p] (h : ¬ p) : (!decide p) = true := by simp [h]
theorem nf {p : Prop} [Decidable p] (h : p) : (!decide p) = false := by simp [h]
theorem cond_t {N : Nat} {c : Opd} {x y : ACode} {b : Bool} {Q : Exit → AS → Prop} (hb : s.ev c = .b b) (h : b = true) (k : AW P N x s Q) : AW P N (.cond c x y) s Q :=
  AW_cond hb (fun _ => k) fun e => by rw [h] at e; cases e
theorem cond_f {N : Nat} {c : Opd} {x y : ACode} {b : Bool} {Q : Exit → AS → Prop} (hb : s.ev c = .b b) (h : b = false) (k : AW P N y s Q) : AW P N (.cond c x y) s Q :=
  AW_cond hb (fun e => by rw [h] at e; cases e) fun _ => k
theorem exit_then {id : Nat} {K : AS → Prop} {Q : Exit → AS → Prop} (h : Q (.exit id) s) : Then K Q (.exit id) s := h
theorem exit_round {α : Type} {Inv : α → Prop} {I : α → AS} {m : α → Nat} {x : α} {id : Nat} {Q : Exit → AS → Prop} (h : Q (.exit id) s) : Round Inv I m x Q (.exit id) s := h
theorem exit_block {id : Nat} {Q : Exit → AS → Prop} (h : Q .normal s) : InBlock id Q (.exit id) s := by simp only [InBlock, if_true]; exact h
theorem exit_other {id id' : Nat} {Q : Exit → AS → Prop} (h0 : id' ≠ id) (h : Q (.exit id') s) : InBlock id Q (.exit id') s := by simp only [InBlock, h0, if_false]; exact h
theorem norm_then {K : AS → Prop} {Q : Exit → AS → Prop} (h : K s) : Then K Q .normal s := h
theorem norm_block {id : Nat} {Q : Exit → AS → Prop} (h : Q .normal s) : InBlock id Q .normal s := h
theorem ret_then {K : AS → Prop} {Q : Exit → AS → Prop} (h : Q .ret s) : Then K Q .ret s := h
theorem ret_block {id : Nat} {Q : Exit → AS → Prop} (h : Q .ret s) : InBlock id Q .ret s := h
theorem ret_round {α : Type} {Inv : α → Prop} {I : α → AS} {m : α → Nat} {x : α} {Q : Exit → AS → Prop} (h : Q .ret s) : Round Inv I m x Q .ret s := h
theorem next_round {α : Type} {Inv : α → Prop} {I : α → AS} {m : α → Nat} {x : α} {Q : Exit → AS → Prop} (x' : α) (h1 : Inv x') (h2 : Weak s (I x')) (h3 : m x' < m x) : Round Inv I m x Q .normal s := ⟨x', h1, h2, h3⟩
theorem ret_done {ts : List Nat} {res : AV} (h : Outs s (resAV s ts) res) : Done ts res .ret s := h
theorem skip_then {N : Nat} {K : AS → Prop} {Q : Exit → AS → Prop} (h : K s) : AW P N .skip s (Then K Q) := AW_skip h
theorem g_noF {op : AOp} {t : Nat} {b : Bool} (h : s.tm t = .b b) (hb : b = true) (k : K (s.put d (.v undef))) : aop1 P own ⟨d, op, some (t, false)⟩ s K := g_no h hb k
theorem g_noT {op : AOp} {t : Nat} {b : Bool} (h : s.tm t = .b b) (hb : b = false) (k : K (s.put d (.v undef))) : aop1 P own ⟨d, op, some (t, true)⟩ s K := g_no h hb k
theorem seq_ops {N : Nat} {l : List AOper} {y : ACode} {Q : Exit → AS → Prop} (h : aops P true l s fun s' => AW P N y s' Q) : AW P N (.seq (.ops l) y) s Q := AW_seq (AW_ops h)
theorem seq_tree {N : Nat} {t : ATree} {y : ACode} {Q : Exit → AS → Prop} (h : atree P t s fun s' => AW P N y s' Q) : AW P N (.seq (.tree t) y) s Q := AW_seq (AW_tree h)
theorem outs_b {a b : Bool} (h : a = b) : Outs s (.b a) (.b b) := fun _ _ _ _ _ _ _ _ hh => by subst h; simpa [SimV] using hh
theorem outs_i {a b : Int} (h : a = b) : Outs s (.i a) (.i b) := fun _ _ _ _ _ _ _ _ hh => by subst h; simpa [SimV] using hh
theorem outs_v {x : Value} : Outs s (.v x) (.v x) := fun _ _ _ _ _ _ _ _ h => by simpa [SimV] using h
theorem ob_not_cells {G : Prop} {w : World} {phi : Nat → Option Nat} {r b b' : Nat} {o : Obj} {cur : Array Value} {e : TypeId} {f : Nat × Nat} (h8 : phi r = some b') (h9 : w.heap[b']? = some o) (h10 : isCells o = false) (h1 : phi r = some b) (h3 : w.heap[b]? = some (.cells cur e f)) : G := by
  rw [h8] at h1
  cases h1
  rw [h9] at h3
  cases h3
  simp [isCells] at h10
/-- A region is handed out. -/
theorem outs_sl {r z n : Nat} {cs : List AV} (hr : s.hp r = some (true, cs)) (hl : cs.length = n * z) (hall : cs.all plainV = true) :
    Outs s (.sl r z 0 n) (.ro true z cs n) := by
  intro w0 N tm w phi ro y hS hy
  simp only [SimV] at hy ⊢
  rcases hy.2.2 with ⟨h1, _, rfl, rfl⟩ | ⟨b, o, cap, cur, e, h1, rfl, h3, h4, h5, h6, h7⟩
  · left
    exact ⟨rfl, List.eq_nil_of_length_eq_zero (by omega), none, 0, rfl, fun _ => ⟨rfl, rfl⟩⟩
  · right
    have ho : o = 0 := by
      rcases h4 with h4 | h4
      · exact h4
      · exact absurd h4.2 (Nat.lt_irrefl _)
    subst ho
    rcases hS.liv r _ hr with ⟨h8, _⟩ | ⟨b', cur', e', h8, h9, h10, h11, h12⟩ | ⟨b', o', _, h8, h9, h10, _⟩
    · have : phi r = some b := h1
      rw [h8] at this; cases this
    case inr.inr => exact ob_not_cells h8 h9 h10 h1 h3
    · have h1' : phi r = some b := h1
      rw [h8] at h1'
      cases h1'
      have h3' : w.heap[b]? = some (.cells cur e (0, 0)) := h3
      rw [h9] at h3'
      cases h3'
      have hb : w0.heap.size ≤ b := (h11.resolve_right fun h => by cases h.2).2.resolve_right fun h => by obtain ⟨_, _, h⟩ := h; cases h
      refine ⟨b, 0, cap, cur, e, (0, 0), rfl, h9, ⟨hb, lt_of_get h9⟩, hl, h5, fun _ => ⟨hb, rfl, rfl, h6, by omega⟩, ?_⟩
      simp only [SimR, if_true] at h12
      rw [List.drop_zero]
      exact simL_allv hall h12
theorem outs_tup2 {a b a' b' : AV} (h1 : Outs s a a') (h2 : Outs s b b') : Outs s (.tup [a, b]) (.tup [a', b']) := by
  intro w0 N tm w phi ro y hS hy
  simp only [SimV] at hy ⊢
  obtain ⟨ar, hy, hsz, hs⟩ := hy
  refine ⟨ar, hy, hsz, ?_⟩
  match hl : ar.toList with
  | [] => rw [hl] at hs; simp [SimL] at hs
  | [_] => rw [hl] at hs; simp [SimL] at hs
  | u :: v :: rest =>
    rw [hl] at hs
    simp only [SimL, and_true] at hs ⊢
    exact ⟨h1 w0 N tm w phi ro u hS hs.1, h2 w0 N tm w phi ro v hS hs.2⟩
theorem allv_ints (l : List Int) : (l.map AV.i).all plainV = true := by simp [plainV]
theorem outs_ints {r n : Nat} {cs : List AV} {L : List Int} (hr : s.hp r = some (true, cs)) (e : cs = L.map AV.i) (hl : n = L.length) : Outs s (.sl r 1 0 n) (newInts L) := by
  subst e; subst hl
  exact outs_sl hr (by simp) (allv_ints _)
/-- What one value is to a callee. -/
def Lend (hp : Nat → Option (Bool × List AV)) (x a : AV) : Prop :=
  ∀ w0 mu N tm w phi ro v, Sim w0 mu N ⟨fun _ => .any, hp⟩ tm w phi ro → SimV x (ctx w0 w ro phi ⟨fun _ => .any, hp⟩) v →
    SimV a { heap := w.heap, ro := fun b => b < w.heap.size, base := w.heap.size, phi := fun _ => none, live := fun _ => false, loc := false } v
theorem lends_nil {hp : Nat → Option (Bool × List AV)} : Lends hp [] [] := fun _ _ _ _ _ _ _ vs _ _ hl => by
  have : vs = [] := List.eq_nil_of_length_eq_zero (by simpa using hl)
  subst this
  exact ⟨by simp [SimL], rfl⟩
theorem lends_cons {hp : Nat → Option (Bool × List AV)} {x a : AV} {xs asx : List AV} (h : Lend hp x a) (k : Lends hp xs asx) : Lends hp (x :: xs) (a :: asx) := by
  intro w0 mu N tm w phi ro vs hS hs hl
  cases vs with
  | nil => simp at hl
  | cons v vs =>
    simp only [SimL] at hs
    obtain ⟨h1, h2⟩ := k w0 mu N tm w phi ro vs hS hs.2 (by simpa using hl)
    refine ⟨?_, by simpa using h2⟩
    simp only [SimL]
    exact ⟨h w0 mu N tm w phi ro v hS hs.1, h1⟩
theorem lend_v {hp : Nat → Option (Bool × List AV)} {x : Value} : Lend hp (.v x) (.v x) := fun _ _ _ _ _ _ _ _ _ h => by simpa [SimV] using h
/-- A slice of plain values that nobody writes. -/
theorem lend_ro {hp : Nat → Option (Bool × List AV)} {fr : Bool} {z n : Nat} {cs : List AV} (hall : cs.all plainV = true) : Lend hp (.ro fr z cs n) (.ro false z cs n) := by
  intro w0 mu N tm w phi ro v hS h
  simp only [SimV] at h ⊢
  rcases h with ⟨h1, h2, a, c, h3, _⟩ | ⟨b, o, cap, cur, e, fz, h1, h2, h3, h4, h5, _, h6⟩
  · exact .inl ⟨h1, h2, a, c, h3, by simp⟩
  · exact .inr ⟨b, o, cap, cur, e, fz, h1, h2, hS.rob b h3, h4, h5, by simp, simL_allv hall h6⟩
/-- A region of plain values. -/
theorem lend_sl {hp : Nat → Option (Bool × List AV)} {r z off n : Nat} {cs : List AV} (hr : hp r = some (true, cs)) (hl : off + n * z ≤ cs.length) (hall : cs.all plainV = true) :
    Lend hp (.sl r z off n) (.ro false z ((cs.drop off).take (n * z)) n) := by
  intro w0 mu N tm w phi ro v hS h
  simp only [SimV] at h ⊢
  rcases h.2.2 with ⟨h1, rfl, rfl, h4⟩ | ⟨b, o, cap, cur, e, h1, h2, h3, h4, h5, h6, h7⟩
  · exact .inl ⟨rfl, by simp, none, 0, h4, by simp⟩
  · by_cases hn : n = 0
    · subst hn
      exact .inl ⟨rfl, by simp, _, cap, h2, by simp⟩
    · have ho : o = off := by
        rcases h4 with h4 | h4
        · exact h4
        · exact absurd h4.1 hn
      subst ho
      rcases hS.liv r _ hr with ⟨h8, _⟩ | ⟨b', cur', e', h8, h9, h10, h11, h12⟩ | ⟨b', o', _, h8, h9, h10, _⟩
      · have : phi r = some b := h1
        rw [h8] at this; cases this
      case inr.inr => exact ob_not_cells h8 h9 h10 h1 h3
      · have h1' : phi r = some b := h1
        rw [h8] at h1'
        cases h1'
        have h3' : w.heap[b]? = some (.cells cur e (0, 0)) := h3
        rw [h9] at h3'
        cases h3'
        refine .inr ⟨b, o, cap, cur, e, (0, 0), h2, h9, lt_of_get h9, by simp; omega, h5, by simp, ?_⟩
        simp only [SimR, if_true] at h12
        exact simL_allv (List.all_eq_true.2 fun c hc => List.all_eq_true.1 hall c (List.mem_of_mem_drop (List.mem_of_mem_take hc))) ((h12.drop o).take (n * z))
theorem ints_get {l : List Int} {k : Nat} (h : k < l.length) : (l.map AV.i)[k]? = some (AV.i (l.getD k 0)) := by simp [h]
theorem ints_at {l : List Int} {k : Nat} (h : k < l.length) : ((l.map AV.i).drop k)[0]? = some (AV.i (l.getD k 0)) := by simp [h]
section
variable {x : Opd} {L : List Int}
theorem m_ld_rpi {k : Nat} (hx : s.ev x = .rp ((L.map AV.i).drop k)) (h : k < L.length) (kk : K (s.put d (.i (L.getD k 0)))) : aop1 P own ⟨d, .ld none x, none⟩ s K := m_ld_rp hx (ints_at h) kk
theorem m_ld_pti {r k : Nat} {fl : Bool} (hx : s.ev x = .pt r k) (hr : s.hp r = some (fl, L.map AV.i)) (h : k < L.length) (kk : K (s.put d (.i (L.getD k 0)))) : aop1 P own ⟨d, .ld none x, none⟩ s K := m_ld_pt hx hr (ints_get h) kk
end
theorem lend_sli {hp : Nat → Option (Bool × List AV)} {r n : Nat} {L : List Int} (hr : hp r = some (true, L.map AV.i)) (hn : n = L.length) : Lend hp (.sl r 1 0 n) (ints L) := by
  subst hn
  have h := lend_sl (z := 1) (off := 0) (n := L.length) hr (by simp) (allv_ints L)
  have e : ((L.map AV.i).drop 0).take (L.length * 1) = L.map AV.i := by rw [List.drop_zero, Nat.mul_one]; exact List.take_of_length_le (by simp)
  rw [e] at h
  exact h
theorem lend_ints {hp : Nat → Option (Bool × List AV)} {fr : Bool} {n : Nat} {L : List Int} (hn : n = L.length) : Lend hp (.ro fr 1 (L.map AV.i) n) (ints L) := by
  subst hn
  exact lend_ro (allv_ints L)
section
variable {x y : Opd}
theorem m_idx1_slj {r n i : Nat} {j : Int} (hx : s.ev x = .sl r 1 0 n) (hj : s.ev y = .i j) (e : j = (i : Nat)) (h1 : i < n) (k : K (s.put d (.pt r i))) : aop1 P own ⟨d, .idx 1 x y, none⟩ s K := by subst e; exact m_idx1_sl hx hj h1 k
end
theorem take_snoc {α : Type} (l : List α) (k : Nat) (a : α) (h : k < l.length) : l.take (k + 1) = l.take k ++ [l.getD k a] := by
  rw [List.take_succ_eq_append_getElem h]
  simp [h]
end Go.Am
namespace Go.Am
variable [Go.Am.CodeBlk]
variable {P : Program} {own : Bool} {N : Nat} {s : AS} {K : AS → Prop} {d : Option Nat}
section
variable {x y z : Opd}
theorem m_bld {zero : List Value} {pl : List (Nat × Nat)} {args : List Opd} {out : List AV} (hf : pfill (zero.map AV.v) pl (args.map s.ev) out) (k : K (s.put d (.agg out))) : aop1 P own ⟨d, .pu (.bld zero pl) args, none⟩ s K := ⟨_, ⟨out, hf, rfl⟩, k⟩
theorem m_six {b : ByteArray} {j : Nat} (hx : s.ev x = .v (.string b)) (hj : s.ev y = .i (j : Nat)) (h : j < b.size) (k : K (s.put d (.v (.int .u8 (b[j]'h).toNat)))) : aop1 P own ⟨d, .pu .six [x, y], none⟩ s K :=
  ⟨_, ⟨b, .i64, j, by simp [hx, hj], by omega, by simpa using h, by simp⟩, k⟩
theorem m_scut_both {b : ByteArray} {l h : Nat} (hx : s.ev x = .v (.string b)) (hl : s.ev y = .i (l : Nat)) (hh : s.ev z = .i (h : Nat)) (h1 : l ≤ h) (h2 : h ≤ b.size) (k : K (s.put d (.v (.string (b.extract l h))))) : aop1 P own ⟨d, .pu (.scut true true) [x, y, z], none⟩ s K :=
  ⟨_, ⟨b, l, h, [.i l], [.i h], by simp [hx, hl, hh], h1, h2, by simp, by simp, rfl⟩, k⟩
theorem m_scut_lo {b : ByteArray} {l : Nat} (hx : s.ev x = .v (.string b)) (hl : s.ev y = .i (l : Nat)) (h1 : l ≤ b.size) (k : K (s.put d (.v (.string (b.extract l b.size))))) : aop1 P own ⟨d, .pu (.scut true false) [x, y], none⟩ s K :=
  ⟨_, ⟨b, l, b.size, [.i l], [], by simp [hx, hl], h1, Nat.le_refl _, by simp, by simp, rfl⟩, k⟩
theorem m_scut_hi {b : ByteArray} {h : Nat} (hx : s.ev x = .v (.string b)) (hh : s.ev y = .i (h : Nat)) (h1 : h ≤ b.size) (k : K (s.put d (.v (.string (b.extract 0 h))))) : aop1 P own ⟨d, .pu (.scut false true) [x, y], none⟩ s K :=
  ⟨_, ⟨b, 0, h, [], [.i h], by simp [hx, hh], Nat.zero_le _, h1, by simp, by simp, rfl⟩, k⟩
theorem m_aeq {ne e : Bool} {offs : List Nat} {l m : List AV} (hx : s.ev x = .agg l) (hy : s.ev y = .agg m) (he : intsEq l m offs = some e) (k : K (s.put d (.b (ne ^^ e)))) : aop1 P own ⟨d, .pu (.aeq ne offs) [x, y], none⟩ s K :=
  ⟨_, ⟨l, m, e, by simp [hx, hy], he, rfl⟩, k⟩
theorem m_min {a b : Int} (hx : s.ev x = .i a) (hy : s.ev y = .i b) (k : K (s.put d (.i (if b < a then b else a)))) : aop1 P own ⟨d, .pu (.mm false) [x, y], none⟩ s K := ⟨_, ⟨.i64, a, .i64, b, by simp [hx, hy], rfl⟩, k⟩
/-- A call of a function value that bears its first arguments, and what it captured. -/
theorem m_callf {f : FuncId} {l : List AV} {n : Nat} {args : List Opd} {asx : List AV} {res : AV} (hf : s.ev x = .fn f l n) (hcb : Callable P f) (hs : Sp P f asx res) (hl : Lends s.hp (l.take n ++ args.map s.ev ++ l.drop n) asx) (k : K (s.put d res)) :
    aop1 P own ⟨d, .callv x args, none⟩ s K := .inr ⟨f, l, n, hf, hcb, .inl ⟨asx, res, hs, hl, .inl k⟩⟩
theorem m_mkf {f : FuncId} {n : Nat} {args : List Opd} (k : K (s.put d (.fn f (args.map s.ev) n))) : aop1 P own ⟨d, .mkf f n args, none⟩ s K := k
theorem m_box {r n : Nat} {l : List AV} (hx : s.ev x = .agg l) (hok : l.all (cellOk true) = true) (k : K (((s.kill r).mem r (true, l)).put (some r) (.pt r 0))) : aop1 P own ⟨some r, .box n x, none⟩ s K :=
  ⟨r, true, rfl, .inr ⟨l, hx, hok, k⟩⟩
theorem m_box1 {r : Nat} {v : AV} (hx : s.ev x = v) (hok : cellOk true v = true) (k : K (((s.kill r).mem r (true, [v])).put (some r) (.pt r 0))) : aop1 P own ⟨some r, .box 1 x, none⟩ s K := by
  subst hx; exact ⟨r, true, rfl, .inl ⟨rfl, hok, k⟩⟩
theorem m_ldall {r n : Nat} {fl : Bool} {cs : List AV} (hx : s.ev x = .pt r 0) (hr : s.hp r = some (fl, cs)) (hl : cs.length = n) (k : K (s.put d (.agg cs))) : aop1 P own ⟨d, .ld (some n) x, none⟩ s K := by
  subst hl
  exact .inl ⟨r, 0, fl, cs, hx, hr, by simp, by simpa using k⟩
theorem m_ldk_rp {n : Nat} {cs : List AV} (hx : s.ev x = .rp cs) (hl : n ≤ cs.length) (k : K (s.put d (.agg (cs.take n)))) : aop1 P own ⟨d, .ld (some n) x, none⟩ s K := .inr ⟨cs, hx, hl, k⟩
theorem m_stall {r n : Nat} {fl : Bool} {cs l : List AV} (hx : s.ev x = .pt r 0) (hr : s.hp r = some (fl, cs)) (hy : s.ev y = .agg l) (hl : l.length = n) (hl2 : cs.length = n) (hok : l.all (cellOk fl) = true) (k : K (s.mem r (fl, l))) :
    aop1 P own ⟨d, .st n x y, none⟩ s K := ⟨r, 0, fl, cs, hx, hr, .inr ⟨l, hy, hl, by omega, hok, by
      have : cs.take 0 ++ l ++ cs.drop (0 + n) = l := by rw [List.take_zero, List.nil_append, Nat.zero_add, List.drop_of_length_le (by omega), List.append_nil]
      rw [this]; exact k⟩⟩
end
theorem lend_agg {hp : Nat → Option (Bool × List AV)} {l : List AV} (hall : l.all plainV = true) : Lend hp (.agg l) (.agg l) := by
  intro w0 mu N tm w phi ro v hS h
  simp only [SimV] at h ⊢
  obtain ⟨a, h1, h2, h3⟩ := h
  exact ⟨a, h1, h2, simL_allv hall h3⟩
theorem outs_agg {l : List AV} (hall : l.all plainV = true) : Outs s (.agg l) (.agg l) := by
  intro w0 N tm w phi ro y hS h
  simp only [SimV] at h ⊢
  obtain ⟨a, h1, h2, h3⟩ := h
  exact ⟨a, h1, h2, simL_allv hall h3⟩
def mvV (r q : Nat) : AV → AV
  | .sl p z o n => if p = r then .sl q z o n else killV q (killV r (.sl p z o n))
  | .pt p o => if p = r then .pt q o else killV q (killV r (.pt p o))
  | x => killV q (killV r x)
/-- The region r is called q from now on. -/
def AS.mv (s : AS) (r q : Nat) (c : List AV) : AS := ⟨fun t => mvV r q (s.tm t), (((s.kill r).kill q).mem q (true, c)).hp⟩
theorem weak_move {s : AS} {r q : Nat} {c : List AV} (hr : s.hp r = some (true, c)) (hrp : r < pbase) (hqp : q < pbase) : Weak s (s.mv r q c) := by
  intro w0 mu N a w hS
  obtain ⟨hf, phi, ro, h⟩ := hS
  have fin : ∀ phi', Sim w0 mu N (((s.kill r).kill q).mem q (true, c)) a.tmps w phi' ro → phi' q = phi r → Simw w0 mu N (s.mv r q c) a w := by
    intro phi' h1 h2
    refine ⟨hf, phi', ro, { h1 with tms := fun t => ?_ }⟩
    have g0 := h.tms t
    have g1 := h1.tms t
    show SimV (mvV r q (s.tm t)) (ctx w0 w ro phi' (((s.kill r).kill q).mem q (true, c))) _
    have g2 : SimV (killV q (killV r (s.tm t))) (ctx w0 w ro phi' (((s.kill r).kill q).mem q (true, c))) (a.tmps.getD t undef) := g1
    cases hx : s.tm t <;> rw [hx] at g0 g2 <;> simp only [mvV] <;> first | exact g2 | skip
    · split
      · rename_i hp
        subst hp
        simp only [SimV] at g0 ⊢
        obtain ⟨_, _, g0⟩ := g0
        refine ⟨rfl, by simp [ctx, AS.mem], ?_⟩
        rcases g0 with ⟨e1, e2⟩ | ⟨b, o', cap, cur, e, e1, e2⟩
        · exact .inl ⟨h2.trans e1, e2⟩
        · exact .inr ⟨b, o', cap, cur, e, h2.trans e1, e2⟩
      · exact g2
    · split
      · rename_i hp
        subst hp
        simp only [SimV] at g0 ⊢
        obtain ⟨_, _, b, e1, e2⟩ := g0
        exact ⟨rfl, by simp [ctx, AS.mem], b, h2.trans e1, e2⟩
      · exact g2
  rcases h.liv r _ hr with ⟨h1, h2, _⟩ | ⟨b, cur, e, h1, _⟩ | ⟨b, o, _, h1, _⟩
  · simp only at h2
    subst h2
    exact fin _ (((h.kill r).kill q).born (kill_hp _ q) hqp (true, []) none rfl) (by simp [h1])
  case inr.inr =>
    obtain ⟨phi', hp', hS'⟩ := h.rename hr hrp hqp h1
    exact fin phi' (by simpa [killR] using hS') (hp'.trans h1.symm)
  · obtain ⟨phi', hp', hS'⟩ := h.rename hr hrp hqp h1
    exact fin phi' (by simpa [killR] using hS') (hp'.trans h1.symm)
section
variable {x y : Opd}
theorem m_bsl1 {r : Nat} {z : Value} {v : AV} (hx : s.ev x = v) (hv : cellOk true v = true) (k : K (((s.kill r).mem r (true, [v])).put (some r) (.sl r 1 0 1))) : aop1 P own ⟨some r, .bsl 1 1 [z] [(0, x)], none⟩ s K :=
  m_bsl (fl := true) (out := [v]) (by subst hx; exact .inl ⟨rfl, by simp, hv, rfl⟩) k
theorem m_app1 {q r q' n bs : Nat} {cs : List AV} {v : AV} (hx : s.ev x = .sl r 1 0 n) (hp : r < pbase) (hr : s.hp r = some (true, cs)) (hl : cs.length = n) (hy : s.ev y = .sl q' 1 0 1) (hq : s.hp q' = some (true, [v])) (hv : cellOk true v = true)
    (h1 : n ≤ 4194304) (h2 : bs ≤ 64) (k : K ((((s.kill r).kill q).mem q (true, cs ++ [v])).put (some q) (.sl q 1 0 (n + 1)))) : aop1 P own ⟨some q, .app 1 bs x y, none⟩ s K := by
  refine m_app (fl := true) (ys := [v]) (m := 1) hx hp hr (by omega) ?_ (by simp [hv]) (by show n + 1 ≤ 9223372036854775807; omega) ?_ ?_
  · rw [hy]
    exact Elems.sl q' 0 1 true [v] hq (by simp)
  · have := Nat.mul_le_mul (show n + 1 ≤ 4194305 by omega) h2
    omega
  · exact k
end
section
variable {x y z : Opd} {zero : List Value} {o1 o2 o3 : Nat} {v1 v2 v3 : AV}
theorem m_bld_2 (h1 : s.ev x = v1) (h2 : s.ev y = v2) (c1 : o1 < zero.length) (c2 : o2 < zero.length) (e1 : cellOk false v1 = true) (e2 : cellOk false v2 = true)
    (k : K (s.put d (.agg (((zero.map AV.v).set o1 v1).set o2 v2)))) : aop1 P own ⟨d, .pu (.bld zero [(o1, 1), (o2, 1)]) [x, y], none⟩ s K :=
  m_bld (by subst h1; subst h2; exact .inl ⟨rfl, by simpa using c1, e1, .inl ⟨rfl, by simpa using c2, e2, rfl⟩⟩) k
end
section
variable {x y : Opd}
theorem m_bsl0 {r : Nat} {z : List Value} (k : K (((s.kill r).mem r (true, [])).put (some r) (.sl r 1 0 0))) : aop1 P own ⟨some r, .bsl 1 0 z [], none⟩ s K :=
  m_bsl (fl := true) (out := []) rfl k
theorem m_appro {q r n m bs : Nat} {fr : Bool} {cs ys : List AV} (hx : s.ev x = .sl r 1 0 n) (hp : r < pbase) (hr : s.hp r = some (true, cs)) (hl : cs.length = n) (hy : s.ev y = .ro fr 1 ys m) (hok : ys.all (cellOk true) = true)
    (h1 : n + m ≤ 4194304) (h2 : bs ≤ 64) (k : K ((((s.kill r).kill q).mem q (true, cs ++ ys)).put (some q) (.sl q 1 0 (n + m)))) : aop1 P own ⟨some q, .app 1 bs x y, none⟩ s K := by
  refine m_app (fl := true) (ys := ys) (m := m) hx hp hr (by omega) ?_ hok (by show n + m ≤ 9223372036854775807; omega) ?_ ?_
  · rw [hy]
    exact Elems.ro fr ys m
  · have := Nat.mul_le_mul h1 h2
    omega
  · exact k
theorem step_two {o p : AOper} {t u : ATree} {R : AS → Prop} (h1 : atree P (.take o t) s R) (h2 : atree P (.take p u) s R) : atree P (.two o t p u) s R := ⟨h1, h2⟩
/-- A string, told by its bytes. -/
abbrev str (l : List UInt8) : AV := .v (.string ⟨l.toArray⟩)
theorem bytes_append (a b : List UInt8) : (⟨a.toArray⟩ : ByteArray) ++ ⟨b.toArray⟩ = ⟨(a ++ b).toArray⟩ := by
  apply ByteArray.ext
  simp [ByteArray.data_append]
section
variable {x y : Opd}
theorem m_adds {a b : List UInt8} (hx : s.ev x = str a) (hy : s.ev y = str b) (h : a.length + b.length ≤ 1000000000) (k : K (s.put d (str (a ++ b)))) : aop1 P own ⟨d, .bin .add x y, none⟩ s K := by
  refine ⟨_, _, _, hx, hy, ?_, k⟩
  have h2 : (⟨a.toArray⟩ : ByteArray).size + (⟨b.toArray⟩ : ByteArray).size ≤ 9223372036854775807 := by
    show a.toArray.size + b.toArray.size ≤ _
    simp; omega
  show (if (⟨a.toArray⟩ : ByteArray).size + (⟨b.toArray⟩ : ByteArray).size ≤ 9223372036854775807 then some (Value.string ((⟨a.toArray⟩ : ByteArray) ++ ⟨b.toArray⟩)) else none) = _
  rw [if_pos h2, bytes_append]
theorem m_neqs_self {b : ByteArray} (hx : s.ev x = .v (.string b)) (hy : s.ev y = .v (.string b)) (k : K (s.put d (.b false))) : aop1 P own ⟨d, .bin .neq x y, none⟩ s K := by
  refine ⟨_, _, _, hx, hy, rfl, ?_⟩
  rw [show (!(b.toList == b.toList)) = false by simp]
  exact k
theorem m_slen {b : List UInt8} (hx : s.ev x = str b) (k : K (s.put d (.i b.length))) : aop1 P own ⟨d, .slen x, none⟩ s K := ⟨_, hx, k⟩
theorem m_six' {b : List UInt8} {j : Nat} (hx : s.ev x = str b) (hj : s.ev y = .i (j : Nat)) (h : j < b.length) (k : K (s.put d (.v (.int .u8 (b.getD j 0).toNat)))) : aop1 P own ⟨d, .pu .six [x, y], none⟩ s K := by
  refine m_six hx hj h ?_
  have e : (⟨b.toArray⟩ : ByteArray)[j]'h = b.getD j 0 := by
    show b.toArray[j]'_ = _
    simp [h]
  rw [e]
  exact k
theorem m_bts_sl {r n : Nat} {fl : Bool} {bs : List UInt8} (hx : s.ev x = .sl r 1 0 n) (hr : s.hp r = some (fl, byteVs bs)) (hn : n = bs.length) (k : K (s.put d (str bs))) : aop1 P own ⟨d, .bts x, none⟩ s K := by
  subst hn
  refine ⟨bs, ?_, k⟩
  rw [hx]
  have h := Elems.sl (hp := s.hp) (z := 1) r 0 bs.length fl (byteVs bs) hr (by simp [byteVs])
  rw [List.drop_zero, List.take_of_length_le (by simp [byteVs])] at h
  exact h
end
/-- A slice of one thing that leads to a region; it is appended to a region of such. -/
theorem m_bsl1d {x : Opd} {r : Nat} {z : Value} {v : AV} (hx : s.ev x = v) (hv : cellOk false v = true) (k : K (((s.kill r).mem r (killR r (false, [v]))).put (some r) (.sl r 1 0 1))) : aop1 P own ⟨some r, .bsl 1 1 [z] [(0, x)], none⟩ s K :=
  m_bsl (fl := false) (out := [v]) (by subst hx; exact .inl ⟨rfl, by simp, hv, rfl⟩) k
theorem m_app1d {x y : Opd} {q r q' n bs : Nat} {cs : List AV} {v : AV} (hx : s.ev x = .sl r 1 0 n) (hp : r < pbase) (hr : s.hp r = some (false, cs)) (hl : cs.length = n) (hy : s.ev y = .sl q' 1 0 1) (hq : s.hp q' = some (false, [v])) (hv : cellOk false v = true)
    (h1 : n ≤ 4194304) (h2 : bs ≤ 64) (k : K ((((s.kill r).kill q).mem q (killR q (killR r (false, cs ++ [v])))).put (some q) (.sl q 1 0 (n + 1)))) : aop1 P own ⟨some q, .app 1 bs x y, none⟩ s K := by
  refine m_app (fl := false) (ys := [v]) (m := 1) hx hp hr (by omega) ?_ (by simp [hv]) (by show n + 1 ≤ 9223372036854775807; omega) ?_ ?_
  · rw [hy]
    exact Elems.sl q' 0 1 false [v] hq (by simp)
  · have := Nat.mul_le_mul (show n + 1 ≤ 4194305 by omega) h2
    omega
  · exact k
theorem m_bsl2i {x y : Opd} {r : Nat} {z : Value} {a b : Int} (hx : s.ev x = .i a) (hy : s.ev y = .i b) (k : K (((s.kill r).mem r (true, [a, b].map AV.i)).put (some r) (.sl r 1 0 2))) : aop1 P own ⟨some r, .bsl 1 2 [z] [(0, x), (1, y)], none⟩ s K :=
  m_bsl (fl := true) (out := [.i a, .i b]) (.inl ⟨rfl, by simp, by rw [hx]; rfl, .inl ⟨rfl, by simp, by rw [hy]; rfl, by rw [hx, hy]; rfl⟩⟩) k
theorem killL_append (r : Nat) (l m : List AV) : killL r (l ++ m) = killL r l ++ killL r m := by rw [killL_eq_map, killL_eq_map, killL_eq_map, List.map_append]
theorem oks_ints (L : List Int) : (L.map AV.i).all (cellOk true) = true := by simp [cellOk]; intro x _; rfl
end
section
variable {x y i : Opd}
theorem m_mmk {r : Nat} (k : K (((s.kill r).mem r (true, [.ob (.map #[] 0)])).put (some r) (.mp r))) : aop1 P own ⟨some r, .mmk, none⟩ s K := ⟨r, rfl, k⟩
/-- A map is asked: a key that it has, and one that it has not. -/
theorem m_mget {r : Nat} {q : IntKind} {z : Value} {ok : Bool} {es : Array MapEntry} {clock : Nat} {j : Int} (hx : s.ev x = .mp r) (hr : s.hp r = some (true, [.ob (.map es clock)])) (hi : s.ev i = .v (.int q j)) (hkeys : ∀ e ∈ es.toList, ∃ n, e.key = .int q n)
    (h1 : ∀ e ∈ es.toList, e.key = .int q j → K (s.put d (mres ok e.val true))) (h2 : (∀ e ∈ es.toList, e.key ≠ .int q j) → K (s.put d (mres ok z false))) : aop1 P own ⟨d, .mget q z ok x i, none⟩ s K :=
  ⟨r, es, clock, j, hx, hr, hi, hkeys, h1, h2⟩
/-- A map's entry is written: one that it has, and a new one. -/
theorem m_mput {r : Nat} {q : IntKind} {es : Array MapEntry} {clock : Nat} {j : Int} {v : Value} (hx : s.ev x = .mp r) (hr : s.hp r = some (true, [.ob (.map es clock)])) (hi : s.ev i = .v (.int q j)) (hy : s.ev y = .v v) (hkeys : ∀ e ∈ es.toList, ∃ n, e.key = .int q n)
    (h1 : ∀ (n : Nat) (e : MapEntry), es.toList[n]? = some e → e.key = .int q j → K (s.mem r (true, [.ob (.map (es.modify n fun e => { e with key := .int q j, val := v }) clock)])))
    (h2 : (∀ e ∈ es.toList, e.key ≠ .int q j) → K (s.mem r (true, [.ob (.map (es.push { key := .int q j, val := v, born := clock }) (clock + 1))]))) : aop1 P own ⟨none, .mput q x i y, none⟩ s K :=
  ⟨r, es, clock, j, v, hx, hr, hi, hy, hkeys, h1, h2⟩
end
end Go.Am
namespace Go.Am
variable [Go.Am.CodeBlk]
variable {P : Program} {N : Nat}
/-- Where such a call begins. -/
def enterH (asx : List AV) (hin : Hp) : AS := ⟨fun t => (asx[t]?).getD .any, hin⟩
theorem enterH_sim {w : World} {phi : Nat → Option Nat} {asx : List AV} {hin : Hp} {vs : Array Value} {n : Nat} (hg : GoodW w) (hgb : ∀ r b, (hin r).isSome = true → phi r = some b → b ∉ goodB) (hpb : ∀ r, (hin r).isSome = true → pbase ≤ r) (hinj : Inj hin phi) (hregs : Regs (ctxE w phi hin) hin)
    (hs : SimL asx (ctxE w phi hin) vs.toList) (hl : vs.size = asx.length) :
    Sim w (fun r => if (hin r).isSome then phi r else none) (min n pbase) (enterH asx hin) (vs ++ Array.replicate (n - vs.size) undef) w phi (ctxE w phi hin).ro where
  os := rfl
  tape := rfl
  output := rfl
  size := Nat.le_refl _
  kept := fun _ _ _ => rfl
  shp := fun b cur e f hb => ⟨cur, hb, rfl⟩
  npb := Nat.min_le_right _ _
  gd := ⟨hg, fun r b h => by split at h; exact hgb r b ‹_› h; cases h⟩
  rob := fun _ hb => hb.1
  inj := fun r r' b h1 h2 h3 h4 => hinj r r' b h1 h2 h3 h4
  liv := fun r c hc => by
    have hr : (hin r).isSome = true := by have h1 : hin r = some c := hc
                                          rw [h1]; rfl
    rcases hregs r c hc with ⟨h1, h2⟩ | ⟨b, cur, e, h1, h2, h3⟩ | ⟨b, o, h0, h1, h2, h3⟩
    · refine .inl ⟨h1, h2, fun _ => ?_⟩
      rw [if_pos hr]; exact h1
    · refine .inr (.inl ⟨b, cur, e, h1, h2, fun hb => hb.2 r hr h1, .inr ⟨hpb r hr, ?_⟩, h3⟩)
      rw [if_pos hr]; exact h1
    · refine .inr (.inr ⟨b, o, h0, h1, h2, h3, fun hb => hb.2 r hr h1, .inr ⟨hpb r hr, ?_⟩⟩)
      rw [if_pos hr]; exact h1
  tms := fun t => by
    simp only [enterH]
    cases hx : asx[t]? with
    | none => simp [SimV]
    | some x =>
      obtain ⟨y, hy, hsy⟩ := hs.get hx
      have hlt : t < vs.size := by
        have := (List.getElem?_eq_some_iff.1 hy).1
        simpa using this
      have hy' : vs[t] = y := by
        have := (List.getElem?_eq_some_iff.1 hy).2
        simpa using this
      have : (vs ++ Array.replicate (n - vs.size) undef).getD t undef = y := by
        simp [Array.getD_eq_getD_getElem?, Array.getElem?_append, hlt, hy']
      rw [this]
      exact hsy
  slots := by simp; omega
/-- What such a function owes at its end: s: names. -/
def DoneH (ts : List Nat) (res : AV) (hin hout : Hp) : Exit → AS → Prop
  | .normal, s | .ret, s => ∃ g : Nat → Nat, resAV s ts = renV g res ∧ (∀ r c, hout r = some c → ∃ c0, s.hp (g r) = some c0 ∧ (c0 = renR g c ∨ (c.2 = [] ∧ c0.2 = []))) ∧ (∀ r, (hin r).isSome = true → g r = r ∧ (hout r).isSome = true) ∧
      (∀ r, (hout r).isSome = true → hin r = none → g r < pbase) ∧ (∀ r r', (hout r).isSome = true → (hout r').isSome = true → g r = g r' → r = r')
  | _, _ => False
/-- What is asked of names and values alone. -/
structure Static (hin : Hp) (res : AV) (hout : Hp) : Prop where
  pb : ∀ r, (hin r).isSome = true → pbase ≤ r
  own : ∀ r c, hout r = some c → ownL false c.2 = true ∧ refsL (fun r => (hout r).isSome) c.2 = true
  res : ownV false res = true ∧ refsV (fun r => (hout r).isSome) res = true
/-- A block that is a region's own is new, if all that was lent is there still. -/
theorem Sim.mine_new {w0 w : World} {mu : Nat → Option Nat} {N : Nat} {s : AS} {tm : Array Value} {phi : Nat → Option Nat} {ro : Nat → Prop} (h : Sim w0 mu N s tm w phi ro) (hall : ∀ r b, mu r = some b → (s.hp r).isSome = true) {q b : Nat} (hq : (s.hp q).isSome = true) (hlt : q < pbase) (hp : phi q = some b) (hm : Mine w0 mu b) : w0.heap.size ≤ b := by
  rcases hm with h1 | ⟨r, hr, hmu⟩
  · exact h1
  exfalso
  have hs := hall r b hmu
  obtain ⟨c, hc⟩ := Option.isSome_iff_exists.1 hs
  have hge : pbase ≤ r := Nat.le_trans (by decide) hr
  have key : phi r = some b := by
    rcases h.liv r c hc with ⟨_, _, k3⟩ | ⟨b', _, _, k1, _, _, k4, _⟩ | ⟨b', _, _, k1, _, _, _, k4⟩
    · rw [k3 hge] at hmu; cases hmu
    · rcases k4 with k4 | k4
      · omega
      · rw [k4.2] at hmu; cases hmu; exact k1
    · rcases k4 with k4 | k4
      · omega
      · rw [k4.2] at hmu; cases hmu; exact k1
  have := h.inj q r b hq hs hp key
  omega
theorem specH_of {f : FuncId} {fn : Func} {code : Code} {ac : ACode} {ts : List Nat} {asx : List AV} {hin hout : Hp} {res : AV} (hf : P.funcs[f]? = some fn) (hb : fn.body = some code) (hc : ccode P (min fn.ntmps pbase) code = some ac) (hr : resTmps fn = some ts)
    (hst : Static hin res hout) (h : AW P (min fn.ntmps pbase) ac (enterH asx hin) (DoneH ts res hin hout)) : SpH P f asx hin res hout := by
  intro w vs phi hg hgb hinj hregs hs hl
  refine calls_of_wp hf hb (wp_mono (h code hc w _ _ w ⟨rfl, _, _, enterH_sim hg hgb hst.pb hinj hregs hs hl⟩) fun e a' w' hA => ?_)
  obtain ⟨s', h1, hf', phi', ro, hS⟩ := hA
  have fin : (∃ g : Nat → Nat, resAV s' ts = renV g res ∧ (∀ r c, hout r = some c → ∃ c0, s'.hp (g r) = some c0 ∧ (c0 = renR g c ∨ (c.2 = [] ∧ c0.2 = []))) ∧ (∀ r, (hin r).isSome = true → g r = r ∧ (hout r).isSome = true) ∧
      (∀ r, (hout r).isSome = true → hin r = none → g r < pbase) ∧ (∀ r r', (hout r).isSome = true → (hout r').isSome = true → g r = g r' → r = r')) → a'.defers = [] ∧ ∃ v, (results fn a'.tmps).run P w' = .ok v w' ∧
      ∃ v' phi', Ending.returned v = .returned v' ∧ w'.os = w.os ∧ w'.tape = w.tape ∧ w'.output = w.output ∧ w.heap.size ≤ w'.heap.size ∧
      (∀ r, (hin r).isSome = true → phi' r = phi r) ∧ (∀ b, b < w.heap.size → (∀ r, (hin r).isSome = true → phi r ≠ some b) → w'.heap[b]? = w.heap[b]?) ∧
      (∀ (b : Nat) (cur : Array Value) (e : TypeId) (f : Nat × Nat), w.heap[b]? = some (.cells cur e f) → ∃ cur' : Array Value, w'.heap[b]? = some (.cells cur' e f) ∧ cur'.size = cur.size) ∧
      Inj hout phi' ∧ (∀ r b, (hout r).isSome = true → hin r = none → phi' r = some b → w.heap.size ≤ b) ∧ Regs (ctxX w w' phi' hout) hout ∧ SimV res (ctxX w w' phi' hout) v' := by
    rintro ⟨g, hres, hhas, hstay, hfresh, hgi⟩
    have hlv : ∀ r, (hout r).isSome = true → (s'.hp (g r)).isSome = true := by
      intro r hr
      obtain ⟨c, hc⟩ := Option.isSome_iff_exists.1 hr
      obtain ⟨c0, h1, _⟩ := hhas r c hc
      rw [h1]; rfl
    have hall : ∀ r b, (if (hin r).isSome = true then phi r else none) = some b → (s'.hp r).isSome = true := by
      intro r b hb
      split at hb
      · rename_i hi
        have := hlv r (hstay r hi).2
        rw [(hstay r hi).1] at this
        exact this
      · cases hb
    have hvt : SimV (resAV s' ts) (ctx w w' ro phi' s') (resVal a'.tmps ts) := simv_res hS ts
    rw [hres] at hvt
    refine ⟨hf', _, run_results hr a'.tmps w' P, _, fun r => phi' (g r), rfl, hS.os, hS.tape, hS.output, hS.size, fun r hr => ?_, fun b hb hne => hS.kept b hb fun r hr => ?_, hS.shp, ?_, ?_, ?_, ?_⟩
    · obtain ⟨e1, e2⟩ := hstay r hr
      obtain ⟨c, hc⟩ := Option.isSome_iff_exists.1 e2
      obtain ⟨c0, hh, _⟩ := hhas r c hc
      rw [e1] at hh
      show phi' (g r) = phi r
      rw [e1]
      rcases hS.liv r _ hh with ⟨k1, _, k3⟩ | ⟨b, cur, e', k1, _, _, k4, _⟩ | ⟨b, o, _, k1, _, _, _, k4⟩
      case inr.inr =>
        rcases k4 with k4 | k4
        · have := hst.pb r hr; omega
        · have k5 := k4.2
          simp only [hr, if_true] at k5
          rw [k1, k5]
      · have k5 := k3 (hst.pb r hr)
        simp only [hr, if_true] at k5
        rw [k1, k5]
      · rcases k4 with k4 | k4
        · have := hst.pb r hr; omega
        · have k5 := k4.2
          simp only [hr, if_true] at k5
          rw [k1, k5]
    · split at hr
      · rename_i hrs; exact hne r hrs hr
      · cases hr
    · intro r r' b h1 h2 h3 h4
      exact hgi r r' h1 h2 (hS.inj _ _ b (hlv r h1) (hlv r' h2) h3 h4)
    · intro r b h1 h2 h3
      obtain ⟨c, hc⟩ := Option.isSome_iff_exists.1 h1
      have hlt := hfresh r h1 h2
      obtain ⟨c0, hh0, _⟩ := hhas r c hc
      rcases hS.liv _ _ hh0 with ⟨k1, _⟩ | ⟨b', _, _, k1, _, _, k4, _⟩ | ⟨b', _, _, k1, _, _, _, k4⟩
      · have h3' : phi' (g r) = some b := h3
        rw [k1] at h3'; cases h3'
      case inr.inr =>
        have h3' : phi' (g r) = some b := h3
        rw [k1] at h3'; cases h3'
        rcases k4 with k4 | k4
        · exact hS.mine_new hall (by rw [hh0]; rfl) k4.1 k1 k4.2
        · omega
      · have h3' : phi' (g r) = some b := h3
        rw [k1] at h3'; cases h3'
        rcases k4 with k4 | k4
        · exact hS.mine_new hall (by rw [hh0]; rfl) k4.1 k1 k4.2
        · omega
    · intro r c hc
      obtain ⟨ho, hrf⟩ := hst.own r c hc
      obtain ⟨c0, hh0, hc0⟩ := hhas r c hc
      rcases hS.liv _ _ hh0 with ⟨k1, k2, _⟩ | ⟨b, cur, e', k1, k2, _, _, k5⟩ | ⟨b, o, h0, k1, k2, k3, _⟩
      case inr.inr =>
        rcases hc0 with rfl | hc0
        · exact .inr (.inr ⟨b, o, renR_ob h0, k1, k2, k3⟩)
        · rw [h0] at hc0; simp at hc0
      · refine .inl ⟨k1, ?_⟩
        rcases hc0 with rfl | hc0
        · obtain ⟨fl, cs⟩ := c
          simp only [renR, renL_map] at k2
          exact List.map_eq_nil_iff.1 k2
        · exact hc0.1
      · rcases hc0 with rfl | hc0
        case inr => exact .inr (.inl ⟨b, cur, e', k1, k2, by unfold SimR; rw [hc0.1]; simp [SimL]⟩)
        refine .inr (.inl ?_)
        exact ⟨b, cur, e', k1, k2, simR_in (q := false) (C := ctxX w w' (fun r => phi' (g r)) hout) (D := ctx w w' ro phi' s') rfl (fun e => by cases e) (fun _ => rfl) (fun _ r _ => rfl) ho hrf k5⟩
    · exact simV_in false g (ctxX w w' (fun r => phi' (g r)) hout) (ctx w w' ro phi' s') rfl (fun e => by cases e) (fun _ => rfl) (fun _ r _ => rfl) res _ hst.res.1 hst.res.2 hvt
  cases e with
  | normal => exact fin h1
  | ret => exact fin h1
  | exit id => exact h1.elim
  | goto l => exact h1.elim
  | panic c => exact h1.elim
  | outgrown => exact h1.elim
/-- With an open end. -/
def DoneX (ts : List Nat) {ι : Type} (ok : ι → Prop) (res : ι → AV) (hin : Hp) (hout : ι → Hp) (e : Exit) (s : AS) : Prop := ∃ i, ok i ∧ DoneH ts (res i) hin (hout i) e s
theorem ret_doneh {s : AS} {ts : List Nat} {res : AV} {hin hout : Hp} (g : Nat → Nat) (h1 : resAV s ts = renV g res) (h2 : ∀ r c, hout r = some c → ∃ c0, s.hp (g r) = some c0 ∧ (c0 = renR g c ∨ (c.2 = [] ∧ c0.2 = []))) (h3 : ∀ r, (hin r).isSome = true → g r = r ∧ (hout r).isSome = true)
    (h4 : ∀ r, (hout r).isSome = true → hin r = none → g r < pbase) (h5 : ∀ r r', (hout r).isSome = true → (hout r').isSome = true → g r = g r' → r = r') : DoneH ts res hin hout .ret s := ⟨g, h1, h2, h3, h4, h5⟩
/-- A call that is lent regions. -/
theorem m_callh {s : AS} {K : AS → Prop} {d : Option Nat} {f : FuncId} {args : List Opd} {asx : List AV} {hin hout hp' : Hp} {res : AV} (g : Nat → Nat) (hs : SpH P f asx hin res hout) (ha : LendsH s.hp g hin (args.map s.ev) asx) (hL : Lent s g hin hout hp' res)
    (k : K (AS.put ⟨s.tm, hp'⟩ d (renV g res))) : aop1 P true ⟨d, .call f args, none⟩ s K := .inr (.inr (.inl ⟨rfl, asx, hin, Unit, fun _ => True, fun _ => res, fun _ => hout, g, fun _ => hp', hs.toX, ha, ⟨(), trivial⟩, fun _ _ => ⟨hL, k⟩⟩))
theorem entry_leE (w : World) (phi : Nat → Option Nat) : Ctx.Le { heap := w.heap, ro := fun b => b < w.heap.size, base := w.heap.size, phi := fun _ => none, live := fun _ => false, loc := false } (ctxE w phi fun _ => none) :=
  ⟨fun b hb => ⟨⟨hb, fun r hr => by simp at hr⟩, rfl⟩, Nat.le_refl _, fun e => by simp at e, fun e => by simp at e, fun e => by simp at e⟩
/-- Nothing is lent but to be read. -/
theorem lendsH_none {hp : Hp} {f : Nat → Nat} {xs asx : List AV} (h : Lends hp xs asx) : LendsH hp f (fun _ => none) xs asx := by
  intro w0 mu N tm w phi ro vs hS hs hl
  obtain ⟨h1, h2⟩ := h w0 mu N tm w phi ro vs hS hs hl
  exact ⟨SimL.mono _ _ _ _ (entry_leE w _) h1, h2⟩
/-- A function that is lent nothing, its result read asx new memory. -/
theorem spH_sp {f : FuncId} {asx : List AV} {res res' : AV} {hout : Hp} (h : SpH P f asx (fun _ => none) res hout)
    (hr : ∀ w w' phi v, (∀ r b, (hout r).isSome = true → phi r = some b → w.heap.size ≤ b) → Regs (ctxX w w' phi hout) hout → SimV res (ctxX w w' phi hout) v → SimV res' (fresh w w') v) : Sp P f asx res' := by
  intro w vs hg hent
  refine (h w vs (fun _ => none) hg (fun r b hr => by simp at hr) (fun r r' b hr => by simp at hr) (fun r c hc => by simp at hc) (SimL.mono _ _ _ _ (entry_leE w _) hent.1) (by simpa using hent.2)).mono fun x w' hpost => ?_
  obtain ⟨v, phi', rfl, hos, htape, hout', hsize, _, hkept, _, _, hnew, hregs, hres⟩ := hpost
  exact ⟨v, rfl, ⟨hos, htape, hout', hsize, fun b hb => hkept b hb fun r hr => by simp at hr⟩, hr w w' phi' v (fun r b h1 h2 => hnew r b h1 rfl h2) hregs hres⟩
end Go.Am
