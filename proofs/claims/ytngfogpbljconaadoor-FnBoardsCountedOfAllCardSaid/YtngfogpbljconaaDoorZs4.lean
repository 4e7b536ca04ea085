/- The abstract machine, contracts: part 4 of what this claim needs. -/
import Derived.Test.YtngfogpbljconaaDoorZs3
set_option linter.unusedSectionVars false
namespace Go.Am
variable [Go.Am.CodeBlk]
variable {P : Program} {own : Bool} {d : Option Nat} {s : AS} {K : AS → Prop} {N : Nat}
section
variable {x y z : Opd} {A B : List UInt8}
theorem str_beq (A B : List UInt8) : ((⟨A.toArray⟩ : ByteArray).toList == (⟨B.toArray⟩ : ByteArray).toList) = decide (A = B) := by
  rw [ByteArray.toList_eq, ByteArray.toList_eq, Bool.eq_iff_iff]
  simp
theorem m_eqs (hx : s.ev x = str A) (hy : s.ev y = str B) (k : K (s.put d (.b (decide (A = B))))) : aop1 P own ⟨d, .bin .eql x y, none⟩ s K := by
  refine ⟨_, _, _, hx, hy, rfl, ?_⟩
  rw [str_beq]
  exact k
theorem m_eqk {q : IntKind} {a b : Int} (hx : s.ev x = .v (.int q a)) (hy : s.ev y = .v (.int q b)) (k : K (s.put d (.b (decide (a = b))))) : aop1 P own ⟨d, .bin .eql x y, none⟩ s K := by
  refine ⟨_, _, .bool (a == b), hx, hy, by simp [pbin], ?_⟩
  rw [show (a == b) = decide (a = b) from by rw [Bool.eq_iff_iff]; simp]
  exact k
theorem m_neqk {q : IntKind} {a b : Int} (hx : s.ev x = .v (.int q a)) (hy : s.ev y = .v (.int q b)) (k : K (s.put d (.b (decide (a ≠ b))))) : aop1 P own ⟨d, .bin .neq x y, none⟩ s K := by
  refine ⟨_, _, .bool (a != b), hx, hy, by simp [pbin], ?_⟩
  rw [show (a != b) = decide (a ≠ b) from by rw [Bool.eq_iff_iff]; simp]
  exact k
theorem bytes_extract (A : List UInt8) (l h : Nat) : (⟨A.toArray⟩ : ByteArray).extract l h = ⟨((A.drop l).take (h - l)).toArray⟩ := by
  apply ByteArray.ext
  rw [ByteArray.data_extract]
  apply Array.ext'
  rw [Array.toList_extract]
theorem m_scutb {l h : Nat} (hx : s.ev x = str A) (hl : s.ev y = .i (l : Nat)) (hh : s.ev z = .i (h : Nat)) (h1 : l ≤ h) (h2 : h ≤ A.length) (k : K (s.put d (str ((A.drop l).take (h - l))))) : aop1 P own ⟨d, .pu (.scut true true) [x, y, z], none⟩ s K :=
  m_scut_both hx hl hh h1 (by show h ≤ A.toArray.size; simpa using h2) (by rw [bytes_extract]; exact k)
theorem m_scutl {l : Nat} (hx : s.ev x = str A) (hl : s.ev y = .i (l : Nat)) (h1 : l ≤ A.length) (k : K (s.put d (str (A.drop l)))) : aop1 P own ⟨d, .pu (.scut true false) [x, y], none⟩ s K := by
  refine m_scut_lo hx hl (by show l ≤ A.toArray.size; simpa using h1) ?_
  rw [bytes_extract]
  have : (⟨A.toArray⟩ : ByteArray).size = A.length := by show A.toArray.size = _; simp
  rw [this, List.take_of_length_le (by simp)]
  exact k
theorem m_scuth {h : Nat} (hx : s.ev x = str A) (hh : s.ev y = .i (h : Nat)) (h1 : h ≤ A.length) (k : K (s.put d (str (A.take h)))) : aop1 P own ⟨d, .pu (.scut false true) [x, y], none⟩ s K := by
  refine m_scut_hi hx hh (by show h ≤ A.toArray.size; simpa using h1) ?_
  rw [bytes_extract, List.drop_zero, Nat.sub_zero]
  exact k
theorem m_xcall {f : FuncId} {fn : Func} {e : Array Value → Sem Value} {args : List Opd} {vs : List Value} {v : Value} (h1 : P.funcs[f]? = some fn) (h2 : (fn.name == "runtime.NumGoroutine") = false) (h3 : fn.body.isNone = true) (h4 : Extern.findNext fn = none) (h5 : Extern.find fn = some e)
    (h6 : args.map s.ev = vs.map AV.v) (h7 : ∀ w, (e vs.toArray).run P w = .ok v w) (k : K (s.put d (.v v))) : aop1 P own ⟨d, .xcall f args, none⟩ s K := ⟨fn, e, vs, v, h1, h2, h3, h4, h5, h6, h7, k⟩
end
section
variable {x y i : Opd}
theorem m_mgetk {kt : TypeId} {zv : Value} {es : Array MapEntry} {clock : Nat} {kv : Value} {r : AV} {ok : Bool} (KL : WideMaps.KeyLaw P kt) (hm : MapAt s (s.ev x) es clock) (hi : exV (s.ev i) = some kv) (hk : ∃ l, keyOf P kt kv = some l) (hkeys : ∀ e ∈ es.toList, ∃ l, keyOf P kt e.key = some l)
    (h1 : ∀ e ∈ es.toList, e.key = kv → mres ok e.val true = r) (h2 : (∀ e ∈ es.toList, e.key ≠ kv) → mres ok zv false = r) (k : K (s.put d r)) : aop1 P own ⟨d, .mgetk kt zv ok x i, none⟩ s K :=
  ⟨KL, es, clock, kv, hm, hi, hk, hkeys, r, h1, h2, k⟩
theorem m_mrg {r q : Nat} {es : Array MapEntry} {clock : Nat} (hx : s.ev x = .mp q) (hne : q ≠ r) (hq : s.hp q = some (true, [.ob (.map es clock)]))
    (k : ∀ bm : Nat, K (((s.kill r).mem r (true, [.ob (.mapIter (some bm) clock #[] clock)])).put (some r) (.mit r (some q) bm #[] 0))) : aop1 P own ⟨some r, .mrg x, none⟩ s K :=
  ⟨r, rfl, .inl ⟨q, es, clock, hx, hne, hq, k⟩⟩
theorem m_mrgr {r : Nat} {fr : Bool} {es : Array MapEntry} {clock : Nat} (hx : s.ev x = .rmp fr es clock)
    (k : ∀ bm : Nat, K (((s.kill r).mem r (true, [.ob (.mapIter (some bm) clock #[] clock)])).put (some r) (.mit r none bm es clock))) : aop1 P own ⟨some r, .mrg x, none⟩ s K :=
  ⟨r, rfl, .inr ⟨fr, es, clock, hx, k⟩⟩
theorem m_mnx {r q bm ck0 since : Nat} {es0 : Array MapEntry} {seen : Array Nat} {c0 : Nat} {es : Array MapEntry} {clock : Nat} (hx : s.ev x = .mit r (some q) bm es0 ck0) (hr : s.hp r = some (true, [.ob (.mapIter (some bm) since seen c0)]))
    (hne : q ≠ r) (hq : s.hp q = some (true, [.ob (.map es clock)])) (hold : ∀ e ∈ es.toList, e.born < since) (hsc : since ≤ c0) (k1 : (∀ e ∈ es.toList, seen.contains e.born = true) → K (s.put d (.tup [.v (.bool false)])))
    (k2 : ∀ e ∈ es.toList, seen.contains e.born = false → K ((s.mem r (true, [.ob (.mapIter (some bm) since (seen.push e.born) clock)])).put d (.tup [.v (.bool true), .any, .any]))) : aop1 P own ⟨d, .mnx x, none⟩ s K :=
  ⟨r, some q, bm, es0, ck0, since, seen, c0, es, clock, hx, hr, .inl ⟨q, rfl, hne, hq⟩, hold, hsc, k1, k2⟩
theorem m_mnxr {r bm since : Nat} {seen : Array Nat} {c0 : Nat} {es : Array MapEntry} {clock : Nat} (hx : s.ev x = .mit r none bm es clock) (hr : s.hp r = some (true, [.ob (.mapIter (some bm) since seen c0)]))
    (hold : ∀ e ∈ es.toList, e.born < since) (hsc : since ≤ c0) (k1 : (∀ e ∈ es.toList, seen.contains e.born = true) → K (s.put d (.tup [.v (.bool false)])))
    (k2 : ∀ e ∈ es.toList, seen.contains e.born = false → K ((s.mem r (true, [.ob (.mapIter (some bm) since (seen.push e.born) clock)])).put d (.tup [.v (.bool true), .any, .any]))) : aop1 P own ⟨d, .mnx x, none⟩ s K :=
  ⟨r, none, bm, es, clock, since, seen, c0, es, clock, hx, hr, .inr ⟨rfl, rfl, rfl⟩, hold, hsc, k1, k2⟩
theorem m_ment {r q bm ck0 since : Nat} {es0 : Array MapEntry} {seen : Array Nat} {es : Array MapEntry} {clock : Nat} {e : MapEntry} {ka va : AV} (hx : s.ev x = .mit r (some q) bm es0 ck0)
    (hr : s.hp r = some (true, [.ob (.mapIter (some bm) since (seen.push e.born) clock)])) (hne : q ≠ r) (hq : s.hp q = some (true, [.ob (.map es clock)])) (he : e ∈ es.toList) (hn : (es.toList.map (·.born)).Nodup)
    (hka : exV ka = some e.key) (hva : exV va = some e.val) (k : K (s.put d (.tup [ka, va]))) : aop1 P own ⟨d, .ment x, none⟩ s K :=
  ⟨r, some q, bm, es0, ck0, since, seen, es, clock, e, ka, va, hx, hr, .inl ⟨q, rfl, hne, hq⟩, he, hn, hka, hva, k⟩
theorem m_mentr {r bm since : Nat} {seen : Array Nat} {es : Array MapEntry} {clock : Nat} {e : MapEntry} {ka va : AV} (hx : s.ev x = .mit r none bm es clock)
    (hr : s.hp r = some (true, [.ob (.mapIter (some bm) since (seen.push e.born) clock)])) (he : e ∈ es.toList) (hn : (es.toList.map (·.born)).Nodup)
    (hka : exV ka = some e.key) (hva : exV va = some e.val) (k : K (s.put d (.tup [ka, va]))) : aop1 P own ⟨d, .ment x, none⟩ s K :=
  ⟨r, none, bm, es, clock, since, seen, es, clock, e, ka, va, hx, hr, .inr ⟨rfl, rfl, rfl⟩, he, hn, hka, hva, k⟩
theorem m_mdel {kt : TypeId} {r : Nat} {es : Array MapEntry} {clock : Nat} {kv : Value} (KL : WideMaps.KeyLaw P kt) (hx : s.ev x = .mp r) (hr : s.hp r = some (true, [.ob (.map es clock)])) (hi : exV (s.ev i) = some kv) (hk : ∃ l, keyOf P kt kv = some l)
    (hks : ∀ e ∈ es.toList, ∃ l, keyOf P kt e.key = some l) (k1 : ∀ (n : Nat) (e : MapEntry), es.toList[n]? = some e → e.key = kv → K ((s.mem r (true, [.ob (.map (es.eraseIdxIfInBounds n) clock)])).put d (.tup [])))
    (k2 : (∀ e ∈ es.toList, e.key ≠ kv) → K ((s.mem r (true, [.ob (.map es clock)])).put d (.tup []))) : aop1 P own ⟨d, .mdel kt x i, none⟩ s K :=
  ⟨KL, r, es, clock, kv, hx, hr, hi, hk, hks, k1, k2⟩
theorem m_mputk {kt : TypeId} {r : Nat} {es : Array MapEntry} {clock : Nat} {kv v : Value} (KL : WideMaps.KeyLaw P kt) (hx : s.ev x = .mp r) (hr : s.hp r = some (true, [.ob (.map es clock)])) (hi : exV (s.ev i) = some kv) (hy : s.ev y = .v v) (hk : ∃ l, keyOf P kt kv = some l) (hkeys : ∀ e ∈ es.toList, ∃ l, keyOf P kt e.key = some l)
    (hnew : ∀ e ∈ es.toList, e.key ≠ kv) (k : K (s.mem r (true, [.ob (.map (es.push { key := kv, val := v, born := clock }) (clock + 1))]))) : aop1 P own ⟨none, .mputk kt x i y, none⟩ s K :=
  ⟨KL, r, es, clock, kv, v, hx, hr, hi, hy, hk, hkeys, fun _n e he hk => absurd hk (hnew e (List.mem_of_getElem? he)), fun _ => k⟩
end
/-- Plain values, and maps that nobody writes. -/
def plainM : AV → Bool
  | .v _ => true
  | .rmp _ _ _ => true
  | _ => false
/-- Such a value, asx somebody else sees it. -/
def unf : AV → AV
  | .rmp _ es clock => .rmp false es clock
  | x => x
theorem simL_rmp {C D : Ctx} (hh : C.heap = D.heap) (hr : ∀ b, C.ro b → D.ro b) : ∀ {l : List AV} {ys : List Value}, l.all plainM = true → SimL l C ys → SimL (l.map unf) D ys
  | [], _, _, _ => by simp [SimL]
  | _ :: _, [], _, h => by simp [SimL] at h
  | x :: l, y :: ys, h, hs => by
    simp only [List.all_cons, Bool.and_eq_true, SimL, List.map_cons] at h hs ⊢
    refine ⟨?_, simL_rmp hh hr h.2 hs.2⟩
    cases x <;> simp [plainM] at h
    · simpa [SimV, unf] using hs.1
    · have h1 := hs.1
      simp only [SimV, unf] at h1 ⊢
      obtain ⟨b, k1, k2, k3, _⟩ := h1
      exact ⟨b, k1, by rw [← hh]; exact k2, hr b k3, fun e => by cases e⟩
theorem lend_rmp {hp : Hp} {fr : Bool} {es : Array MapEntry} {clock : Nat} : Lend hp (.rmp fr es clock) (.rmp false es clock) := by
  intro w0 mu N tm w phi ro v hS hv
  simp only [SimV] at hv ⊢
  obtain ⟨b, k1, k2, k3, _⟩ := hv
  exact ⟨b, k1, k2, lt_of_get k2, fun e => by cases e⟩
theorem ob_at' {w0 w : World} {mu : Nat → Option Nat} {tm : Array Value} {phi : Nat → Option Nat} {ro : Nat → Prop} (hS : Sim w0 mu N s tm w phi ro) {r k : Nat} {es : Array MapEntry} {clock : Nat} (hr : s.hp r = some (true, [.ob (.map es clock)])) (hk : phi r = some k) :
    w.heap[k]? = some (.map es clock) ∧ (r < pbase → Mine w0 mu k) := by
  rcases hS.liv r _ hr with ⟨h1, _⟩ | ⟨b', cur, e, h1, h2, _, _, h5⟩ | ⟨b', o, h0, h1, h2, h3, h4, h5⟩
  · rw [h1] at hk; cases hk
  · exfalso
    simp only [SimR, if_true] at h5
    cases hc : cur.toList with
    | nil => rw [hc] at h5; simp [SimL] at h5
    | cons y ys => rw [hc] at h5; simp [SimL, SimV] at h5
  · rw [h1] at hk
    cases hk
    simp only [Prod.mk.injEq, List.cons.injEq, AV.ob.injEq, and_true, true_and] at h0
    subst h0
    exact ⟨h2, fun hp => (h5.resolve_right fun h => by omega).2⟩
/-- What a callee sees of plain memory. -/
abbrev ctxAll (w : World) : Ctx := { heap := w.heap, ro := fun b => b < w.heap.size, base := w.heap.size, phi := fun _ => none, live := fun _ => false, loc := false }
theorem lend_map {hp : Hp} {r : Nat} {es : Array MapEntry} {clock : Nat} (hr : hp r = some (true, [.ob (.map es clock)])) : Lend hp (.mp r) (.rmp false es clock) := by
  intro w0 mu N tm w phi ro v hS hv
  simp only [SimV] at hv ⊢
  obtain ⟨_, _, b, k1, k2⟩ := hv
  have k3 := (ob_at' hS hr k1).1
  exact ⟨b, k2, k3, lt_of_get k3, fun e => by cases e⟩
theorem lend_aggM {hp : Hp} {l : List AV} (hall : l.all plainM = true) : Lend hp (.agg l) (.agg (l.map unf)) := by
  intro w0 mu N tm w phi ro v hS h
  simp only [SimV] at h ⊢
  obtain ⟨a, h1, h2, h3⟩ := h
  exact ⟨a, h1, by rw [h2, List.length_map], simL_rmp (C := ctx w0 w ro phi ⟨fun _ => .any, hp⟩) (D := ctxAll w) rfl (fun b hb => hS.rob b hb) hall h3⟩
theorem outs_mp {r : Nat} {es : Array MapEntry} {clock : Nat} (hp : r < pbase) (hr : s.hp r = some (true, [.ob (.map es clock)])) : Outs s (.mp r) (.rmp true es clock) := by
  intro w0 N tm w phi ro y hS h
  simp only [SimV] at h ⊢
  obtain ⟨_, _, b, k1, k2⟩ := h
  obtain ⟨k3, k4'⟩ := ob_at' hS hr k1
  have k4 : r < pbase → w0.heap.size ≤ b := fun hp => (k4' hp).resolve_right fun h => by obtain ⟨_, _, h⟩ := h; cases h
  exact ⟨b, k2, k3, ⟨k4 hp, lt_of_get k3⟩, fun _ => k4 hp⟩
theorem outs_rmp {es : Array MapEntry} {clock : Nat} : Outs s (.rmp true es clock) (.rmp true es clock) := by
  intro w0 N tm w phi ro y hS h
  simp only [SimV] at h ⊢
  obtain ⟨b, k1, k2, k3, k4⟩ := h
  exact ⟨b, k1, k2, ⟨k4 trivial, lt_of_get k2⟩, k4⟩
theorem outs_agg2 {a b a' b' : AV} (h1 : Outs s a a') (h2 : Outs s b b') : Outs s (.agg [a, b]) (.agg [a', b']) := by
  intro w0 N tm w phi ro y hS h
  simp only [SimV] at h ⊢
  obtain ⟨ar, k1, k2, k3⟩ := h
  obtain ⟨l⟩ := ar
  match l, k2, k3 with
  | [p, q], _, k3 =>
    simp only [SimL] at k3
    exact ⟨_, k1, rfl, by simp only [SimL, and_true]; exact ⟨h1 _ _ _ _ _ _ _ hS k3.1, h2 _ _ _ _ _ _ _ hS k3.2.1⟩⟩
/-- A region's beginning is handed out. -/
theorem outs_sl_take {r z n : Nat} {cs : List AV} (hr : s.hp r = some (true, cs)) (hl : n * z ≤ cs.length) (hall : cs.all plainV = true) :
    Outs s (.sl r z 0 n) (.ro true z (cs.take (n * z)) n) := by
  intro w0 N tm w phi ro y hS hy
  simp only [SimV] at hy ⊢
  rcases hy.2.2 with ⟨h1, _, rfl, rfl⟩ | ⟨b, o, cap, cur, e, h1, rfl, h3, h4, h5, h6, h7⟩
  · left
    exact ⟨rfl, by simp, none, 0, rfl, fun _ => ⟨rfl, rfl⟩⟩
  · right
    have ho : o = 0 := by
      rcases h4 with h4 | h4
      · exact h4
      · exact absurd h4.2 (Nat.lt_irrefl _)
    subst ho
    rcases hS.liv r _ hr with ⟨h8, _⟩ | ⟨b', cur', e', h8, h9, h10, h11, h12⟩ | ⟨b', o', _, h8, h9, h10, _⟩
    · have : phi r = some b := h1
      rw [h8] at this; cases this
    case inr.inr => exact ob_not_cells h8 h9 h10 h1 h3
    · have h1' : phi r = some b := h1
      rw [h8] at h1'
      cases h1'
      have h3' : w.heap[b]? = some (.cells cur e (0, 0)) := h3
      rw [h9] at h3'
      cases h3'
      have hb : w0.heap.size ≤ b := (h11.resolve_right fun h => by cases h.2).2.resolve_right fun h => by obtain ⟨_, _, h⟩ := h; cases h
      refine ⟨b, 0, cap, cur, e, (0, 0), rfl, h9, ⟨hb, lt_of_get h9⟩, by rw [List.length_take]; omega, h5, fun _ => ⟨hb, rfl, rfl, h6, by omega⟩, ?_⟩
      simp only [SimR, if_true] at h12
      rw [List.drop_zero]
      exact (simL_allv hall h12).take _
/-- An operation, something being forgotten first. -/
theorem step_opsW {o : AOper} {l : List AOper} {s' : AS} {Q : AS → Prop} (hw : Weak s s') (h : aop1 P own o s' fun s' => aops P own l s' Q) : aops P own (o :: l) s Q := ⟨s', hw, h⟩

/- Results of which some lie in cells. -/
inductive RV where
  | t (n : Nat)
  | c (a k : Nat)
def resG1 (P : Program) : ResultVar → Option RV
  | .tmp t => some (.t t)
  | .cell a t => (shapeT P t).bind fun k => k.map fun k => .c a k
def resG (P : Program) (fn : Func) : Option (List RV) := fn.results.toList.mapM (resG1 P)
def rvOk (s : AS) : RV → AV → Prop
  | .t n, x => s.tm n = x
  | .c a k, x => ∃ r off fl cs, s.tm a = .pt r off ∧ s.hp r = some (fl, cs) ∧ off + k ≤ cs.length ∧ x = .agg ((cs.drop off).take k)
def rvsOk (s : AS) : List RV → List AV → Prop
  | [], [] => True
  | r :: rs, x :: xs => rvOk s r x ∧ rvsOk s rs xs
  | _, _ => False
def tupAV : List AV → AV
  | [x] => x
  | xs => .tup xs
def DoneG (rs : List RV) (res : AV) : Exit → AS → Prop
  | .normal, s | .ret, s => ∃ xs, rvsOk s rs xs ∧ Outs s (tupAV xs) res
  | _, _ => False
theorem rv_run {w w' : World} {mu : Nat → Option Nat} {a' : Act} {phi : Nat → Option Nat} {ro : Nat → Prop} (hS : Sim w mu N s a'.tmps w' phi ro) {r : ResultVar} {rv : RV} {x : AV} (h1 : resG1 P r = some rv) (h2 : rvOk s rv x) :
    ∃ y, (resOne a'.tmps r).run P w' = .ok y w' ∧ SimV x (ctx w w' ro phi s) y := by
  cases r with
  | tmp t =>
    simp only [resG1, Option.some.injEq] at h1
    subst h1
    simp only [rvOk] at h2
    refine ⟨_, rfl, ?_⟩
    rw [← h2]
    exact hS.tms t
  | cell a t =>
    simp only [resG1] at h1
    rw [Option.bind_eq_some_iff] at h1
    obtain ⟨k0, hk0, h1⟩ := h1
    rw [Option.map_eq_some_iff] at h1
    obtain ⟨k, rfl, rfl⟩ := h1
    obtain ⟨r, off, fl, cs, hta, hra, hle, rfl⟩ := h2
    obtain ⟨dd, i, ht, hi, hik, hdd⟩ := shapeT_some hk0
    have hv := hS.tms a
    rw [hta] at hv
    simp only [SimV] at hv
    obtain ⟨_, _, b, hb', hy, cur1, e1, hcell1⟩ := hv
    obtain ⟨cur, e0, hcell, hsim, _⟩ := hS.cell hra hb' hcell1
    have hl := hsim.list
    have hlen := hl.length_le
    simp only [Array.length_toList] at hlen
    have hcell' : w'.heap[b]? = some (.cells cur e0 (0, 0)) := hcell
    have hld : (loadVar t ⟨b, off, none⟩).run P w' = .ok (.agg ((cur.toList.drop off).take k).toArray) w' := by
      have hrun := run_load_agg (P := P) (w := w') (b := b) (off := off) ht hi hdd hcell' (by omega)
      rw [hik] at hrun
      simpa [Instr.loadAt, Instr.sureAddr] using hrun
    refine ⟨.agg ((cur.toList.drop off).take k).toArray, by simp [resOne, hy, asAddr, hld], ?_⟩
    simp only [SimV]
    refine ⟨_, rfl, by simp; omega, ?_⟩
    exact ((hl.drop off).take k).shorter k (by simp; omega)
theorem rvs_run {w w' : World} {mu : Nat → Option Nat} {a' : Act} {phi : Nat → Option Nat} {ro : Nat → Prop} (hS : Sim w mu N s a'.tmps w' phi ro) : ∀ {rs : List ResultVar} {rvs : List RV} {xs : List AV}, rs.mapM (resG1 P) = some rvs → rvsOk s rvs xs →
    ∃ ys, (rs.mapM (m := Sem) (resOne a'.tmps)).run P w' = .ok ys w' ∧ SimL xs (ctx w w' ro phi s) ys ∧ ys.length = xs.length
  | [], rvs, xs, h1, h2 => by
    simp at h1
    subst h1
    cases xs with
    | nil => exact ⟨[], by simp, by simp [SimL], rfl⟩
    | cons => exact h2.elim
  | r :: rs, rvs, xs, h1, h2 => by
    rw [List.mapM_cons] at h1
    simp only [Option.bind_eq_bind, Option.bind_eq_some_iff, Option.pure_def, Option.some.injEq] at h1
    obtain ⟨rv, g1, rvs', g2, rfl⟩ := h1
    cases xs with
    | nil => exact h2.elim
    | cons x xs =>
      obtain ⟨y, k1, k2⟩ := rv_run hS g1 h2.1
      obtain ⟨ys, k3, k4, k5⟩ := rvs_run hS g2 h2.2
      refine ⟨y :: ys, ?_, ?_, by simp [k5]⟩
      · rw [List.mapM_cons]
        simp only [Sem.run_bind, k1, Result.andThen_ok, k3, Sem.run_pure]
      · simp only [SimL]; exact ⟨k2, k4⟩
theorem specG_of {f : FuncId} {fn : Func} {code : Code} {ac : ACode} {rvs : List RV} {asx : List AV} {res : AV} (hf : P.funcs[f]? = some fn) (hb : fn.body = some code) (hc : ccode P (min fn.ntmps pbase) code = some ac) (hr : resG P fn = some rvs)
    (h : AW P (min fn.ntmps pbase) ac (enter0 asx) (DoneG rvs res)) : Sp P f asx res := by
  intro w vs hg hent
  refine calls_of_wp hf hb (wp_mono (h code hc w (fun _ => none) _ w ⟨rfl, _, _, enter0_sim hg hent⟩) fun e a' w' hA => ?_)
  obtain ⟨s', h1, hf', phi, ro, hS⟩ := hA
  have fin : (∃ xs, rvsOk s' rvs xs ∧ Outs s' (tupAV xs) res) → a'.defers = [] ∧ ∃ v, (results fn a'.tmps).run P w' = .ok v w' ∧ ∃ v', Ending.returned v = .returned v' ∧ More w w' ∧ SimV res (fresh w w') v' := by
    rintro ⟨xs, hx, ho⟩
    obtain ⟨ys, k1, k2, k3⟩ := rvs_run hS hr hx
    have hr0 : results fn a'.tmps = (do let vs ← fn.results.mapM (resOne a'.tmps); pure (if h : vs.size = 1 then vs[0] else .tuple vs)) := rfl
    have hm : (fn.results.mapM (m := Sem) (resOne a'.tmps)).run P w' = .ok ys.toArray w' := by
      rw [Array.mapM_eq_mapM_toList, Sem.run_map, k1]
      rfl
    refine ⟨hf', if h : ys.toArray.size = 1 then ys.toArray[0] else .tuple ys.toArray, ?_, _, rfl, ⟨hS.os, hS.tape, hS.output, hS.size, fun b hb => hS.kept b hb (fun r => by simp)⟩, ho w (min fn.ntmps pbase) a'.tmps w' phi ro _ hS ?_⟩
    · rw [hr0, Sem.run_bind, hm]
      simp
    · match xs, ys, k2, k3 with
      | [x], [y], k2, _ =>
        simp only [SimL] at k2
        simpa [tupAV] using k2.1
      | [], [], _, _ => simp [tupAV, SimV, SimL]
      | x :: x' :: xs, y :: y' :: ys, k2, k3 =>
        simp only [tupAV, SimV]
        refine ⟨(y :: y' :: ys).toArray, by simp, by simpa using k3, k2⟩
  cases e with
  | normal => exact fin h1
  | ret => exact fin h1
  | exit id => exact h1.elim
  | goto l => exact h1.elim
  | panic c => exact h1.elim
  | outgrown => exact h1.elim
/-- The end of a function with a struct in a variable, and one value more. -/
theorem ret_doneg2 {a k t r : Nat} {fl : Bool} {cs : List AV} {res : AV} (h1 : s.tm a = .pt r 0) (h2 : s.hp r = some (fl, cs)) (h3 : cs.length = k) (h4 : Outs s (.tup [.agg cs, s.tm t]) res) : DoneG [.c a k, .t t] res .ret s :=
  ⟨[.agg cs, s.tm t], ⟨⟨r, 0, fl, cs, h1, h2, by omega, by rw [List.drop_zero, List.take_of_length_le (by omega)]⟩, rfl, trivial⟩, h4⟩
end Go.Am
namespace Go.Am
variable [Go.Am.CodeBlk]
variable {P : Program} {own : Bool} {N : Nat} {s : AS} {K : AS → Prop} {d : Option Nat}
/-- The state's regions behind a call that handed out these, under the names g. -/
def outR (s : AS) (g : Nat → Nat) (ho : List (Nat × (Bool × List AV))) : Hp := fun q => (look (ho.map fun p => (g p.1, renR g p.2)) q).or (s.hp q)
theorem look_isSome {β : Type} {l : List (Nat × β)} {t : Nat} : (look l t).isSome = true ↔ t ∈ l.map (·.1) := by
  induction l with
  | nil => simp [look]
  | cons p l ih =>
    obtain ⟨k, x⟩ := p
    simp only [look, List.map_cons, List.mem_cons]
    by_cases e : t = k
    · simp [e]
    · rw [if_neg e, ih]; simp [e]
theorem look_map {g : Nat → Nat} {h : (Bool × List AV) → (Bool × List AV)} : ∀ {l : List (Nat × (Bool × List AV))} {r : Nat} {c : Bool × List AV}, (l.map fun p => g p.1).Nodup → look l r = some c → look (l.map fun p => (g p.1, h p.2)) (g r) = some (h c)
  | [], _, _, _, e => by simp [look] at e
  | (k, x) :: l, r, c, hn, e => by
    simp only [look, List.map_cons] at e ⊢
    simp only [List.map_cons, List.nodup_cons] at hn
    by_cases hk : r = k
    · subst hk
      rw [if_pos rfl] at e ⊢
      cases e
      rfl
    · rw [if_neg hk] at e
      have hm := look_mem e
      have hne : ¬ g r = g k := fun e2 => hn.1 (List.mem_map.2 ⟨(r, c), hm, e2⟩)
      rw [if_neg hne]
      exact look_map hn.2 e
theorem look_inj {g : Nat → Nat} : ∀ {l : List (Nat × (Bool × List AV))} {r r' : Nat}, (l.map fun p => g p.1).Nodup → r ∈ l.map (·.1) → r' ∈ l.map (·.1) → g r = g r' → r = r'
  | [], _, _, _, h, _, _ => by simp at h
  | (k, x) :: l, r, r', hn, h1, h2, e => by
    simp only [List.map_cons, List.nodup_cons, List.mem_cons] at hn h1 h2
    have key : ∀ q, q ∈ l.map (·.1) → g q ∈ l.map fun p => g p.1 := fun q hq => by
      obtain ⟨p, hp, rfl⟩ := List.mem_map.1 hq
      exact List.mem_map.2 ⟨p, hp, rfl⟩
    rcases h1 with rfl | h1
    · rcases h2 with rfl | h2
      · rfl
      · exact absurd (e ▸ key _ h2) hn.1
    · rcases h2 with rfl | h2
      · exact absurd (e ▸ key _ h1) hn.1
      · exact look_inj hn.2 h1 h2 e
/-- Each region of a list is there, under its name. -/
def HasI (s : AS) (g : Nat → Nat) : List (Nat × (Bool × List AV)) → Prop
  | [] => True
  | (r, c) :: l => s.hp (g r) = some (renR g c) ∧ HasI s g l
def HasO (s : AS) (g : Nat → Nat) : List (Nat × (Bool × List AV)) → Prop
  | [] => True
  | (r, c) :: l => (∃ c0, s.hp (g r) = some c0 ∧ (c0 = renR g c ∨ (c.2 = [] ∧ c0.2 = []))) ∧ HasO s g l
theorem HasI.all {g : Nat → Nat} : ∀ {l : List (Nat × (Bool × List AV))}, HasI s g l → ∀ p ∈ l, s.hp (g p.1) = some (renR g p.2)
  | [], _, _, hp => by simp at hp
  | _ :: _, h, p, hp => by
    rcases List.mem_cons.1 hp with rfl | hp
    · exact h.1
    · exact HasI.all h.2 p hp
theorem HasO.all {g : Nat → Nat} : ∀ {l : List (Nat × (Bool × List AV))}, HasO s g l → ∀ p ∈ l, ∃ c0, s.hp (g p.1) = some c0 ∧ (c0 = renR g p.2 ∨ (p.2.2 = [] ∧ c0.2 = []))
  | [], _, _, hp => by simp at hp
  | _ :: _, h, p, hp => by
    rcases List.mem_cons.1 hp with rfl | hp
    · exact h.1
    · exact HasO.all h.2 p hp
/-- A call that is lent the regions of one list and hands back those of another. -/
theorem m_callR {f : FuncId} {args : List Opd} {asx : List AV} {hl ho : List (Nat × (Bool × List AV))} {res : AV} (g : Nat → Nat) (hs : SpH P f asx (look hl) res (look ho)) (ha : args.map s.ev = renL g asx)
    (hha : ownL true asx = true) (hra : refsL (fun r => (look hl r).isSome) asx = true)
    (hI : HasI s g hl) (hnd : (ho.map fun p => g p.1).Nodup) (hst : ∀ p ∈ hl, p.1 ∈ ho.map (·.1)) (hfr : ∀ p ∈ ho, p.1 ∈ hl.map (·.1) ∨ (s.hp (g p.1) = none ∧ g p.1 < pbase))
    (hoI : ∀ p ∈ hl, ownL true p.2.2 = true ∧ refsL (fun r => (look hl r).isSome) p.2.2 = true) (hoO : ∀ p ∈ ho, ownL false p.2.2 = true) (hoR : ownV false res = true)
    (k : K (AS.put ⟨s.tm, outR s g ho⟩ d (renV g res))) : aop1 P true ⟨d, .call f args, none⟩ s K := by
  have has := hI.all
  refine m_callh g hs ?_ ⟨fun r c hc => has _ (look_mem hc), fun r r' h1 h2 e => look_inj hnd (look_isSome.1 h1) (look_isSome.1 h2) e, fun r hr => ?_, fun r hr hn => ?_, fun r c hc => ?_, fun q hq => ?_, fun r c hc => hoI _ (look_mem hc), fun r c hc => hoO _ (look_mem hc), hoR⟩ k
  · rw [ha]
    exact lendsH_ren (fun r c hc => by rw [has _ (look_mem hc)]; rfl) hha hra
  · obtain ⟨p, hp, rfl⟩ := List.mem_map.1 (look_isSome.1 hr)
    exact look_isSome.2 (hst p hp)
  · obtain ⟨p, hp, rfl⟩ := List.mem_map.1 (look_isSome.1 hr)
    rcases hfr p hp with h1 | h1
    · have := look_isSome.2 h1
      rw [hn] at this
      cases this
    · exact h1
  · show (look _ (g r)).or _ = _
    rw [look_map hnd hc]
    rfl
  · show (look (ho.map fun p => (g p.1, renR g p.2)) q).or _ = _
    have : look (ho.map fun p => (g p.1, renR g p.2)) q = none := by
      cases h : look (ho.map fun p => (g p.1, renR g p.2)) q with
      | none => rfl
      | some c =>
        obtain ⟨p, hp, e⟩ := List.mem_map.1 (look_mem h)
        cases e
        exact absurd rfl (hq p.1 (look_isSome.2 (List.mem_map.2 ⟨p, hp, rfl⟩)))
    rw [this]
    rfl
/-- What is asked of such lists. -/
theorem static_R {hl ho : List (Nat × (Bool × List AV))} {res : AV} (h1 : ∀ p ∈ hl, pbase ≤ p.1) (h2 : ∀ p ∈ ho, ownL false p.2.2 = true ∧ refsL (fun r => (look ho r).isSome) p.2.2 = true) (h3 : ownV false res = true ∧ refsV (fun r => (look ho r).isSome) res = true) : Static (look hl) res (look ho) :=
  ⟨fun r hr => by
    obtain ⟨p, hp, rfl⟩ := List.mem_map.1 (look_isSome.1 hr)
    exact h1 p hp, fun r c hc => h2 _ (look_mem hc), h3⟩
/-- The end of such a function. -/
theorem ret_R {ts : List Nat} {res : AV} {hl ho : List (Nat × (Bool × List AV))} (g : Nat → Nat) (h1 : resAV s ts = renV g res) (hO : HasO s g ho) (h3 : ∀ p ∈ hl, g p.1 = p.1 ∧ p.1 ∈ ho.map (·.1))
    (h4 : ∀ p ∈ ho, p.1 ∈ hl.map (·.1) ∨ g p.1 < pbase) (h5 : (ho.map fun p => g p.1).Nodup) : DoneH ts res (look hl) (look ho) .ret s := by
  have h2 := hO.all
  refine ret_doneh g h1 (fun r c hc => h2 _ (look_mem hc)) (fun r hr => ?_) (fun r hr hn => ?_) fun r r' a b e => look_inj h5 (look_isSome.1 a) (look_isSome.1 b) e
  · obtain ⟨p, hp, rfl⟩ := List.mem_map.1 (look_isSome.1 hr)
    exact ⟨(h3 p hp).1, look_isSome.2 (h3 p hp).2⟩
  · obtain ⟨p, hp, rfl⟩ := List.mem_map.1 (look_isSome.1 hr)
    rcases h4 p hp with k | k
    · have := look_isSome.2 k
      rw [hn] at this
      cases this
    · exact k
/-- Regions under other names; cells that lead nowhere stay asx they are. -/
def HasJ (s : AS) (f : Nat → Nat) : List (Nat × (Bool × List AV)) → Prop
  | [] => True
  | (r, (true, cs)) :: l => s.hp (f r) = some (true, cs) ∧ HasJ s f l
  | (r, (false, cs)) :: l => s.hp (f r) = some (false, renL f cs) ∧ HasJ s f l
theorem HasJ.at {f : Nat → Nat} : ∀ {h : List (Nat × (Bool × List AV))} {r : Nat} {c : Bool × List AV}, HasJ s f h → (r, c) ∈ h → ∃ c0, s.hp (f r) = some c0 ∧ cellsRen f c0 c
  | [], _, _, _, hm => by simp at hm
  | (k, (true, cs)) :: l, r, c, h, hm => by
    rcases List.mem_cons.1 hm with e | hm
    · cases e; exact ⟨_, h.1, .inl ⟨rfl, rfl⟩⟩
    · exact HasJ.at h.2 hm
  | (k, (false, cs)) :: l, r, c, h, hm => by
    rcases List.mem_cons.1 hm with e | hm
    · cases e; exact ⟨_, h.1, .inr ⟨rfl, .inl rfl⟩⟩
    · exact HasJ.at h.2 hm
/-- What is not told is forgotten, and what is told may get other names. -/
theorem weak_stR {l : List (Nat × AV)} {h : List (Nat × (Bool × List AV))} (f : Nat → Nat) (hl : HasF s f l) (hh : HasJ s f h) (hnd : (h.map fun p => f p.1).Nodup) (hpb : ∀ p ∈ h, (p.1 < pbase ∧ f p.1 < pbase) ∨ (pbase ≤ p.1 ∧ f p.1 = p.1))
    (hr : refsT (fun r => (look h r).isSome) l = true) (hrh : refsH (fun r => (look h r).isSome) h = true) : Weak s (st l h) := by
  refine weak_ren f (fun t => ?_) (fun r c' hc => hh.at (look_mem hc)) (fun r r' h1 h2 e => look_inj hnd (look_isSome.1 h1) (look_isSome.1 h2) e) (fun r hr' => ?_) (fun t => ?_) (fun r cs hc => ?_)
  · show (look l t).getD .any = .any ∨ s.tm t = renV f ((look l t).getD .any)
    cases hx : look l t with
    | none => exact .inl rfl
    | some x => exact .inr (look_hasF hl hx)
  · obtain ⟨p, hp, rfl⟩ := List.mem_map.1 (look_isSome.1 hr')
    exact hpb p hp
  · show refsV (fun r => (look h r).isSome) ((look l t).getD .any) = true
    cases hx : look l t with
    | none => rfl
    | some x => exact look_refs hr hx
  · have h1 : (false || refsL (fun r => (look h r).isSome) cs) = true := look_refsH hrh hc
    rw [Bool.false_or] at h1
    exact h1
/-- A loop that is left in many places goes on from one state. -/
def CutQ (R : AS) (Q : Exit → AS → Prop) : Exit → AS → Prop
  | .normal, s => Weak s R
  | e, s => Q e s
theorem AW_cutloop {id : Nat} {c y : ACode} {Q : Exit → AS → Prop} (R : AS) (k : AW P N y R Q) (h : AW P N (.loop c) s (InBlock id (CutQ R Q))) : AW P N (.loop c) s (InBlock id (Then (fun s' => AW P N y s' Q) Q)) := by
  have key : ∀ e s', CutQ R Q e s' → Then (fun s' => AW P N y s' Q) Q e s' := by
    intro e s' he
    cases e <;> first | exact AW_weak he k | exact he
  refine AW_mono h fun e s' he => ?_
  cases e with
  | exit i =>
    simp only [InBlock] at he ⊢
    split at he
    · rename_i hi
      rw [if_pos hi]
      exact key _ _ he
    · rename_i hi
      rw [if_neg hi]
      exact key _ _ he
  | normal => exact key .normal _ he
  | ret => exact key .ret _ he
  | goto l => exact key (.goto l) _ he
  | panic x => exact key (.panic x) _ he
  | outgrown => exact key .outgrown _ he
end Go.Am
namespace Go.Am
variable [Go.Am.CodeBlk]
variable {P : Program} {own : Bool} {N : Nat} {s : AS} {K : AS → Prop} {d : Option Nat}
/-- An unsigned integer of sixteen bits. -/
abbrev AV.u (a : Nat) : AV := .v (.int .u16 (a : Int))
theorem wrap16 {a : Nat} (h : a < 65536) : IntKind.u16.wrap (a : Int) = (a : Int) := by
  have : IntKind.u16.wrap (a : Int) = (a : Int) % 65536 := by simp [IntKind.wrap, IntKind.bits, IntKind.signed]
  omega
theorem ofInt16 {a : Nat} (h : a < 65536) : (BitVec.ofInt IntKind.u16.bits (a : Int)).toNat = a := by
  show (BitVec.ofInt 16 (a : Int)).toNat = a
  rw [BitVec.ofInt_natCast, BitVec.toNat_ofNat]
  omega
theorem and16_lt {a b : Nat} (h : a < 65536) : a &&& b < 65536 := Nat.lt_of_le_of_lt Nat.and_le_left h
theorem or16_lt {a b : Nat} (h : a < 65536) (h2 : b < 65536) : a ||| b < 65536 := Nat.or_lt_two_pow (n := 16) h h2
theorem shl16_lt {k : Nat} (h : k < 16) : 1 <<< k < 65536 := by
  rw [Nat.one_shiftLeft]
  exact Nat.pow_lt_pow_right (by decide) h
section
variable {x y : Opd} {a b k : Nat}
theorem m_shr16 (hx : s.ev x = .u a) (hy : s.ev y = .i (k : Nat)) (hk : k < 16) (kk : K (s.put d (.u (a >>> k)))) : aop1 P own ⟨d, .bin .shr x y, none⟩ s K := by
  refine ⟨_, _, _, hx, hy, ?_, kk⟩
  have h1 : ¬ ((k : Nat) : Int) < 0 := by omega
  have h2 : min ((k : Nat) : Int).toNat IntKind.u16.bits = k := by show min _ 16 = k; omega
  show (if ((k : Nat) : Int) < 0 then none else some (Value.int .u16 ((a : Int).fdiv (2 ^ (min ((k : Nat) : Int).toNat IntKind.u16.bits))))) = _
  rw [if_neg h1, h2, Nat.shiftRight_eq_div_pow]
  congr 2
  rw [Int.fdiv_eq_ediv_of_nonneg _ (by exact Int.le_of_lt (Int.pow_pos (by decide)))]
  push_cast
  rfl
theorem m_shl16 (hx : s.ev x = .u 1) (hy : s.ev y = .i (k : Nat)) (hk : k < 16) (kk : K (s.put d (.u (1 <<< k)))) : aop1 P own ⟨d, .bin .shl x y, none⟩ s K := by
  refine ⟨_, _, _, hx, hy, ?_, kk⟩
  have h1 : ¬ ((k : Nat) : Int) < 0 := by omega
  have h2 : min ((k : Nat) : Int).toNat IntKind.u16.bits = k := by show min _ 16 = k; omega
  show (if ((k : Nat) : Int) < 0 then none else some (Value.int .u16 (IntKind.u16.wrap ((1 : Int) * 2 ^ (min ((k : Nat) : Int).toNat IntKind.u16.bits))))) = _
  rw [if_neg h1, h2]
  congr 2
  have : ((1 : Int) * (2 : Int) ^ k) = ((1 <<< k : Nat) : Int) := by rw [Nat.one_shiftLeft, Int.one_mul]; push_cast; rfl
  exact (congrArg _ this).trans (wrap16 (shl16_lt hk))
theorem m_and16 (hx : s.ev x = .u a) (hy : s.ev y = .u b) (ha : a < 65536) (hb : b < 65536) (kk : K (s.put d (.u (a &&& b)))) : aop1 P own ⟨d, .bin .and x y, none⟩ s K := by
  refine ⟨_, _, _, hx, hy, ?_, kk⟩
  show some (Value.int .u16 (IntKind.u16.wrap ((BitVec.ofInt IntKind.u16.bits (a : Int) &&& BitVec.ofInt IntKind.u16.bits (b : Int)).toNat : Int))) = _
  rw [BitVec.toNat_and, ofInt16 ha, ofInt16 hb, wrap16 (and16_lt ha)]
theorem m_or16 (hx : s.ev x = .u a) (hy : s.ev y = .u b) (ha : a < 65536) (hb : b < 65536) (kk : K (s.put d (.u (a ||| b)))) : aop1 P own ⟨d, .bin .or x y, none⟩ s K := by
  refine ⟨_, _, _, hx, hy, ?_, kk⟩
  show some (Value.int .u16 (IntKind.u16.wrap ((BitVec.ofInt IntKind.u16.bits (a : Int) ||| BitVec.ofInt IntKind.u16.bits (b : Int)).toNat : Int))) = _
  rw [BitVec.toNat_or, ofInt16 ha, ofInt16 hb, wrap16 (or16_lt ha hb)]
theorem m_eql16 (hx : s.ev x = .u a) (hy : s.ev y = .u b) (kk : K (s.put d (.b (decide (a = b))))) : aop1 P own ⟨d, .bin .eql x y, none⟩ s K := by
  refine ⟨_, _, _, hx, hy, rfl, ?_⟩
  rw [show (((a : Nat) : Int) == ((b : Nat) : Int)) = decide (a = b) from by rw [Bool.eq_iff_iff]; simp; omega]
  exact kk
theorem m_and16_1 (hx : s.ev x = .u a) (hy : s.ev y = .u 1) (ha : a < 65536) (kk : K (s.put d (.u (a &&& 1)))) : aop1 P own ⟨d, .bin .and x y, none⟩ s K := m_and16 hx hy ha (by decide) kk
theorem m_eql16_1 (hx : s.ev x = .u a) (hy : s.ev y = .u 1) (kk : K (s.put d (.b (decide (a = 1))))) : aop1 P own ⟨d, .bin .eql x y, none⟩ s K := m_eql16 hx hy kk
end
theorem bit_and (a k : Nat) : decide ((a >>> k) &&& 1 = 1) = a.testBit k := by
  rw [Nat.testBit, Nat.and_comm]
  have := Nat.one_and_eq_mod_two (a >>> k)
  rcases Nat.mod_two_eq_zero_or_one (a >>> k) with h | h <;> simp [this, h]
theorem bit_or (a k i : Nat) : (a ||| 1 <<< k).testBit i = (a.testBit i || decide (i = k)) := by
  rw [Nat.testBit_or, Nat.one_shiftLeft, Nat.testBit_two_pow]
  by_cases h : k = i
  · subst h; simp
  · simp [h, Ne.symm h]
end Go.Am
namespace Go.Am
variable [Go.Am.CodeBlk]
mutual
/-- Exact values, and slices and pointers that are read, all through. -/
def readV : AV → Bool
  | .v _ => true
  | .ro fr _ cs _ => !fr && readL cs
  | .rp cs => readL cs
  | .any => false
  | .sl _ _ _ _ => false
  | .pt _ _ => false
  | .agg _ => false
  | .tup _ => false
  | .mp _ => false
  | .itr _ => false
  | .ob _ => false
  | .fn _ _ _ => false
  | .rmp _ _ _ => false
  | .fu _ _ _ => false
  | .mit _ _ _ _ _ => false
def readL : List AV → Bool
  | [] => true
  | a :: l => readV a && readL l
end
mutual
theorem SimV.read : ∀ (x : AV) (C D : Ctx) (y : Value), readV x = true → D.heap = C.heap → (∀ b, C.ro b → D.ro b) → SimV x C y → SimV x D y
  | .v _, _, _, _, _, _, _, h => by simpa only [SimV] using h
  | .ro fr z cs n, C, D, y, hr, hh, hro, h => by
    simp only [readV, Bool.and_eq_true, Bool.not_eq_true'] at hr
    simp only [SimV] at h ⊢
    rcases h with h | ⟨b, o, cap, cur, e, fz, h1, h2, h3, h4, h5, h6, h7⟩
    · exact .inl h
    · exact .inr ⟨b, o, cap, cur, e, fz, h1, by rw [hh]; exact h2, hro b h3, h4, h5, (fun e => by rw [hr.1] at e; cases e), SimL.read cs C.out D.out _ hr.2 hh hro h7⟩
  | .rp cs, C, D, y, hr, hh, hro, h => by
    simp only [readV] at hr
    simp only [SimV] at h ⊢
    obtain ⟨b, o, cur, e, fz, h1, h2, h3, h4⟩ := h
    exact ⟨b, o, cur, e, fz, h1, by rw [hh]; exact h2, hro b h3, SimL.read cs C.out D.out _ hr hh hro h4⟩
  | .any, _, _, _, hr, _, _, _ => by simp [readV] at hr
  | .sl _ _ _ _, _, _, _, hr, _, _, _ => by simp [readV] at hr
  | .pt _ _, _, _, _, hr, _, _, _ => by simp [readV] at hr
  | .agg _, _, _, _, hr, _, _, _ => by simp [readV] at hr
  | .tup _, _, _, _, hr, _, _, _ => by simp [readV] at hr
  | .mp _, _, _, _, hr, _, _, _ => by simp [readV] at hr
  | .itr _, _, _, _, hr, _, _, _ => by simp [readV] at hr
  | .ob _, _, _, _, hr, _, _, _ => by simp [readV] at hr
  | .fn _ _ _, _, _, _, hr, _, _, _ => by simp [readV] at hr
  | .rmp _ _ _, _, _, _, hr, _, _, _ => by simp [readV] at hr
  | .fu _ _ _, _, _, _, hr, _, _, _ => by simp [readV] at hr
  | .mit _ _ _ _ _, _, _, _, hr, _, _, _ => by simp [readV] at hr
theorem SimL.read : ∀ (l : List AV) (C D : Ctx) (ys : List Value), readL l = true → D.heap = C.heap → (∀ b, C.ro b → D.ro b) → SimL l C ys → SimL l D ys
  | [], _, _, _, _, _, _, _ => by simp [SimL]
  | _ :: _, _, _, [], _, _, _, h => by simp [SimL] at h
  | a :: l, C, D, y :: ys, hr, hh, hro, h => by
    simp only [readL, Bool.and_eq_true] at hr
    simp only [SimL] at h ⊢
    exact ⟨SimV.read a C D y hr.1 hh hro h.1, SimL.read l C D ys hr.2 hh hro h.2⟩
end
end Go.Am
namespace Go.Am
variable [Go.Am.CodeBlk]
/-- One new map. -/
abbrev oneM (es : Array MapEntry) (ck : Nat) : List (Nat × (Bool × List AV)) := [(nbase, (true, [.ob (.map es ck)]))]
theorem spH_clone {P : Program} {f : FuncId} (h : ∀ (b : Nat) (es : Array MapEntry) (clock : Nat) (w : World), w.heap[b]? = some (.map es clock) → Calls P f #[.map (some b)] w fun e w' => e = .returned (.map (some w.heap.size)) ∧ w' = w.alloc (.map es clock))
    (es : Array MapEntry) (ck : Nat) : SpH P f [.rmp false es ck] (fun _ => none) (.mp nbase) (look (oneM es ck)) := by
  intro w vs phi _ _ _ _ hs hl
  obtain ⟨l⟩ := vs
  match l with
  | [] => simp at hl
  | _ :: _ :: _ => simp at hl
  | [a] =>
    simp only [SimL, SimV, and_true] at hs
    obtain ⟨b, rfl, hb, _, _⟩ := hs
    refine (h b es ck w hb).mono fun e w' hp => ?_
    obtain ⟨rfl, rfl⟩ := hp
    refine ⟨_, fun r => if r = nbase then some w.heap.size else none, rfl, rfl, rfl, rfl, by simp, fun r hr => by simp at hr, fun b hb _ => heap_alloc_old w _ hb, fun b cur e fz hb => ⟨cur, (heap_alloc_old w _ (lt_of_get hb)).trans hb, rfl⟩, ?_, ?_, ?_, ?_⟩
    · intro r r' b h1 h2 e1 e2
      have k1 := look_isSome.1 h1
      have k2 := look_isSome.1 h2
      simp at k1 k2
      rw [k1, k2]
    · intro r b h1 _ e1
      have e1 : (if r = nbase then some w.heap.size else none) = some b := e1
      split at e1
      · cases e1; exact Nat.le_refl _
      · cases e1
    · intro r c hc
      have hm := look_mem hc
      simp at hm
      obtain ⟨rfl, rfl⟩ := hm
      exact .inr (.inr ⟨w.heap.size, .map es ck, rfl, (if_pos rfl : (if nbase = nbase then some w.heap.size else none) = some w.heap.size), heap_alloc_new w _, rfl⟩)
    · simp only [SimV]
      exact ⟨rfl, rfl, w.heap.size, (if_pos rfl : (if nbase = nbase then some w.heap.size else none) = some w.heap.size), rfl⟩
/-- A map is cloned, into a region q. -/
theorem m_clone {P : Program} {s : AS} {K : AS → Prop} {d : Option Nat} {f : FuncId} {x : Opd} {es : Array MapEntry} {ck : Nat} (q : Nat) (hs : SpH P f [.rmp false es ck] (fun _ => none) (.mp nbase) (look (oneM es ck))) (hx : MapAt s (s.ev x) es ck)
    (hq : s.hp q = none) (hqp : q < pbase) (k : K ((s.mem q (true, [.ob (.map es ck)])).put d (.mp q))) : aop1 P true ⟨d, .call f [x], none⟩ s K := by
  have hl : Lends s.hp [s.ev x] [.rmp false es ck] := by
    rcases hx with ⟨r, h1, h2⟩ | ⟨fr, h1⟩
    · rw [h1]; exact lends_cons (lend_map h2) lends_nil
    · rw [h1]; exact lends_cons lend_rmp lends_nil
  have hg : ∀ r, ((look (oneM es ck)) r).isSome = true → r = nbase := fun r hr => by have := look_isSome.1 hr; simpa using this
  refine m_callh (hp' := (s.mem q (true, [.ob (.map es ck)])).hp) (fun _ => q) hs (lendsH_none hl) ⟨fun r c h => by simp at h, fun r r' h1 h2 _ => by rw [hg r h1, hg r' h2], fun r h => by simp at h, fun r _ _ => ⟨hq, hqp⟩, fun r c hc => ?_, fun p hp => ?_, fun r c h => by simp at h, fun r c hc => ?_, rfl⟩ k
  · have hm := look_mem hc
    simp at hm
    obtain ⟨rfl, rfl⟩ := hm
    simp [AS.mem]; rfl
  · have : p ≠ q := fun e => hp nbase rfl e.symm
    simp [AS.mem, this]
  · have hm := look_mem hc
    simp at hm
    obtain ⟨rfl, rfl⟩ := hm
    rfl
end Go.Am
namespace Go.Proofs.YtngfogpbljconaaDoor
variable [Go.Am.CodeBlk]
open Go.Am
def cloneRenP : Go.Shelf.Ren := ⟨fun | 5 => 69 | 7 => 85 | n => n, fun | 4 => 4 | 20 => 20 | 23 => 44 | 25 => 54 | 3 => 4 | n => n, fun n => n⟩
theorem cloneLayP : SlLaysW.n5 Tryd.prog cloneRenP := {
  mixed := by kernel_rfl
  f5 := ⟨Tryd.f69.name, by kernel_rfl, Tryd.func69.trans (congrArg some (by kernel_rfl))⟩
  f7 := Tryd.func85.trans (congrArg some (by kernel_rfl))
  t4 := Tryd.underlying4
  a4 := Tryd.isAgg4
  z4 := Tryd.sizeOf4
  v4 := Tryd.zeroValue4
  t20 := Tryd.underlying20
  a20 := Tryd.isAgg20
  z20 := Tryd.sizeOf20
  v20 := Tryd.zeroValue20
  t23 := Tryd.underlying44
  a23 := Tryd.isAgg44
  z23 := Tryd.sizeOf44
  v23 := Tryd.zeroValue44 }
theorem clonePlaces_spec (es : Array MapEntry) (ck : Nat) : SpH Tryd.prog 69 [.rmp false es ck] (fun _ => none) (.mp nbase) (Am.look (oneM es ck)) :=
  spH_clone (fun b es clock w hb => AnyW.maps_Clone cloneLayP b es clock w hb) es ck
def cloneRenW : Go.Shelf.Ren := ⟨fun | 5 => 70 | 7 => 85 | n => n, fun | 4 => 4 | 20 => 20 | 23 => 75 | 25 => 62 | 3 => 3 | n => n, fun n => n⟩
theorem cloneLayW : SlLaysW.n5 Tryd.prog cloneRenW := {
  mixed := by kernel_rfl
  f5 := ⟨Tryd.f70.name, by kernel_rfl, Tryd.func70.trans (congrArg some (by kernel_rfl))⟩
  f7 := Tryd.func85.trans (congrArg some (by kernel_rfl))
  t4 := Tryd.underlying4
  a4 := Tryd.isAgg4
  z4 := Tryd.sizeOf4
  v4 := Tryd.zeroValue4
  t20 := Tryd.underlying20
  a20 := Tryd.isAgg20
  z20 := Tryd.sizeOf20
  v20 := Tryd.zeroValue20
  t23 := Tryd.underlying75
  a23 := Tryd.isAgg75
  z23 := Tryd.sizeOf75
  v23 := Tryd.zeroValue75 }
theorem cloneWays_spec (es : Array MapEntry) (ck : Nat) : SpH Tryd.prog 70 [.rmp false es ck] (fun _ => none) (.mp nbase) (Am.look (oneM es ck)) :=
  spH_clone (fun b es clock w hb => AnyW.maps_Clone cloneLayW b es clock w hb) es ck
end Go.Proofs.YtngfogpbljconaaDoor
namespace Go.Proofs.YtngfogpbljconaaDoor
variable [Go.Am.CodeBlk]
open Go.Am
attribute [local irreducible] AW Outs Weak Lends Lend Sp aops atree aop1 Then Round InBlock Done
theorem indexByte_spec (B : List UInt8) : Sp Tryd.prog 97 [str B, .v (.int .u8 47)] (.i (Lib.indexByte B 47)) := by
  refine spec_of Tryd.func97 rfl cc97 rfl ?_
  unfold ac97
  repeat (first | (refine step_ops ?_; (refine m_mov (by conv => lhs; whnf) ?_)) | refine end_ops ?_ | refine seq_ops ?_)
  refine step_ops ?_
  refine m_xcall (vs := [.string ⟨B.toArray⟩, .int .u8 47]) (e := Extern.BytealgIndexByte.indexByte) Tryd.func101 (by kernel_rfl) (by kernel_rfl) (by kernel_rfl) (by kernel_rfl) rfl (fun w => Lib.run_indexByteString _ _ _) ?_
  repeat (first | (refine step_ops ?_; (refine m_mov (by conv => lhs; whnf) ?_)) | refine end_ops ?_ | refine AW_ret ?_ | refine ret_done ?_)
  exact outs_i rfl
theorem index_spec (B : List UInt8) (hB : B.length ≤ 1048576) : Sp Tryd.prog 95 [str B, str [47]] (.i (Lib.indexByte B 47)) := by
  refine spec_of Tryd.func95 rfl cc95 rfl ?_
  unfold ac95
  by_cases h : ([47] : List UInt8) = B
  · subst h
    repeat (first | (refine step_ops ?_; ((try (refine g_yes rfl ?_ ?_; (· rfl))); (first | (refine m_mov (by conv => lhs; whnf) ?_) | (refine m_eql rfl rfl ?_) | (refine m_eqs rfl rfl ?_) | (refine m_slen rfl ?_) | (refine m_pick_f rfl ?_ (by conv => lhs; whnf) ?_; (· rfl))))) | refine end_ops ?_ | refine seq_ops ?_ | (refine cond_t rfl ?_ ?_; (· rfl)) | refine AW_seq ?_ | refine AW_ret ?_ | refine ret_done ?_ | refine ret_then ?_ | refine AW_block ?_ | refine ret_block ?_)
    exact outs_i rfl
  · repeat (first | (refine step_ops ?_; ((try (refine g_yes rfl ?_ ?_; (· rfl))); (first | (refine m_mov (by conv => lhs; whnf) ?_) | (refine m_eql rfl rfl ?_) | (refine m_eqs rfl rfl ?_) | (refine m_slen rfl ?_) | (refine m_pick_f rfl ?_ (by conv => lhs; whnf) ?_; (· rfl))))) | refine end_ops ?_ | refine seq_ops ?_ | (refine cond_t rfl ?_ ?_; (· rfl)) | (refine cond_f rfl ?_ ?_; (· (refine decide_eq_false ?_; assumption))) | refine AW_seq ?_ | refine AW_block ?_)
    refine step_ops ?_
    refine m_six' (j := 0) rfl rfl (by decide) ?_
    refine step_ops ?_
    refine m_call (indexByte_spec B) ?_ ?_
    · exact lends_cons lend_v (lends_cons lend_v lends_nil)
    repeat (first | (refine step_ops ?_; (refine m_mov (by conv => lhs; whnf) ?_)) | refine end_ops ?_ | refine AW_ret ?_ | refine ret_done ?_ | refine ret_then ?_ | refine ret_block ?_)
    exact outs_i rfl
theorem stringsIndex_spec (B : List UInt8) (hB : B.length ≤ 1048576) : Sp Tryd.prog 91 [str B, str [47]] (.i (Lib.indexByte B 47)) := by
  refine spec_of Tryd.func91 rfl cc91 rfl ?_
  unfold ac91
  repeat (first | (refine step_ops ?_; (refine m_mov (by conv => lhs; whnf) ?_)) | refine end_ops ?_ | refine seq_ops ?_)
  (refine step_ops ?_); (apply m_call (index_spec B hB)); (· repeat (first | exact lends_nil | (refine lends_cons ?_ ?_; (· exact lend_v))))
  repeat (first | (refine step_ops ?_; (refine m_mov (by conv => lhs; whnf) ?_)) | refine end_ops ?_ | refine AW_ret ?_ | refine ret_done ?_)
  exact outs_i rfl
/-- Texts asx values. -/
def strs (l : List (List UInt8)) : List AV := l.map fun r => str r
theorem strs_len (l : List (List UInt8)) : (strs l).length = l.length := by simp [strs]
theorem strs_plain (l : List (List UInt8)) : (strs l).all plainV = true := by simp [strs, plainV]
/-- What a cut has made so far: the pieces, and nothing behind them. -/
def cutC (done : List (List UInt8)) (m : Nat) : List AV := strs done ++ List.replicate (m - done.length) (str [])
theorem cutC_len (done : List (List UInt8)) (m : Nat) (h : done.length ≤ m) : (cutC done m).length = m := by
  simp [cutC, strs_len]; omega
theorem cutC_set (done : List (List UInt8)) (p : List UInt8) (m : Nat) (h : done.length < m) : (cutC done m).set done.length (str p) = cutC (done ++ [p]) m := by
  obtain ⟨j, hj⟩ : ∃ j, m - done.length = j + 1 := ⟨m - done.length - 1, by omega⟩
  have hj2 : m - (done ++ [p]).length = j := by simp; omega
  unfold cutC
  rw [hj, hj2, List.set_append_right _ _ (by simp [strs_len]), strs_len, Nat.sub_self, List.replicate_succ, List.set_cons_zero]
  simp [strs]
theorem flat_ones {α : Type} (x : α) : ∀ n, (List.replicate n [x]).flatten = List.replicate n x
  | 0 => rfl
  | n + 1 => by rw [List.replicate_succ, List.flatten_cons, flat_ones x n]; rfl
theorem cutC_take (done : List (List UInt8)) (m : Nat) : (cutC done m).take done.length = strs done := by
  unfold cutC
  rw [List.take_append_of_le_length (by simp [strs_len]), List.take_of_length_le (by simp [strs_len])]
theorem splitNB_min (B : List UInt8) : splitNB (min 8 B.length) B = splitNB 8 B := by
  rcases Nat.le_total 8 B.length with h | h
  · rw [Nat.min_eq_left h]
  · have hc : B.count 47 ≤ B.length := List.count_le_length
    rw [Nat.min_eq_right h, splitNB_all _ _ hc, splitNB_all _ _ (by omega)]
theorem genSplit_spec (B : List UInt8) (hB : B.length ≤ 1048576) : Sp Tryd.prog 83 [str B, str [47], .i 0, .i 9] (.ro true 1 (strs (splitNB 8 B)) (splitNB 8 B).length) := by
  obtain ⟨m, hm⟩ : ∃ m, m = min 8 B.length := ⟨_, rfl⟩
  have hmi : (if ((B.length : Int)) + 1 < 9 then ((B.length : Int)) + 1 else 9) = ((m + 1 : Nat) : Int) := by split <;> omega
  have hr0 : splitNB m B = splitNB 8 B := by rw [hm]; exact splitNB_min B
  rw [← hr0]
  refine spec_of Tryd.func83 rfl cc83 rfl ?_
  unfold ac83
  repeat (first | (refine step_ops ?_; (first | (refine m_mov (by conv => lhs; whnf) ?_) | (refine m_lss rfl rfl ?_) | (refine m_eql rfl rfl ?_) | (refine m_eqs rfl rfl ?_) | (refine m_add rfl rfl ?_ ?_ ?_; (· omega); (· omega)) | (refine m_slen rfl ?_) | (refine m_nils ?_) | (refine m_min rfl rfl ?_))) | refine end_ops ?_ | refine seq_ops ?_ | (refine cond_f rfl ?_ ?_; (· rfl)) | refine skip_then ?_ | refine AW_seq ?_)
  rw [hmi]
  refine step_ops ?_
  refine m_mk (n := m + 1) rfl rfl (by omega) (by omega) ?_
  repeat (first | (refine step_ops ?_; (first | (refine m_mov (by conv => lhs; whnf) ?_) | (refine m_sub rfl rfl ?_ ?_ ?_; (· omega); (· omega)))) | refine end_ops ?_ | refine seq_ops ?_ | refine AW_seq ?_ | refine AW_block ?_)
  rw [show ((m + 1 : Nat) : Int) - 1 = (m : Int) by omega]
  skip
  refine AW_loop (α := List (List UInt8) × List UInt8) (fun a => a.1.length ≤ m ∧ a.2.length + a.1.length ≤ B.length ∧ a.1 ++ splitNB (m - a.1.length) a.2 = splitNB m B)
    (fun a => st [(0, str a.2), (1, str [47]), (2, .i 0), (3, .i m), (9, .sl 31 1 0 (m + 1)), (10, .i a.1.length)] [(31, (true, cutC a.1 (m + 1)))]) (fun a => m - a.1.length) ([], B) ⟨Nat.zero_le _, by simp, by simp⟩ (weak_st ?_ ?_ rfl rfl) ?_
  · (repeat' (first | exact trivial | refine And.intro ?_ ?_)) <;> (first | rfl | skip)
  · refine ⟨?_, trivial⟩
    show some (true, (List.replicate (m + 1) [str []]).flatten) = some (true, cutC [] (m + 1))
    rw [flat_ones]; rfl
  rintro ⟨done, rest⟩ ⟨hd, hrl, hres⟩
  dsimp only at hd hrl hres ⊢
  have hcl := cutC_len done (m + 1) (by omega)
  have h47l : ([47] : List UInt8).length = 1 := rfl
  have hcp : (cutC done (m + 1)).all plainV = true := by simp [cutC, strs, plainV]
  have hrl1 : (done ++ [rest]).length = done.length + 1 := by simp
  have hout : ∀ {s : AS}, s.hp 31 = some (true, (cutC done (m + 1)).set done.length (str rest)) → Outs s (.sl 31 1 0 (done.length + 1)) (.ro true 1 (strs (done ++ [rest])) (done ++ [rest]).length) := by
    intro s hs
    rw [cutC_set done rest (m + 1) (by omega)] at hs
    have h := outs_sl_take (z := 1) (n := done.length + 1) hs (by rw [cutC_len _ _ (by omega)]; omega) (by simp [cutC, strs, plainV])
    rw [Nat.mul_one, ← hrl1, cutC_take] at h
    rw [hrl1] at h ⊢
    exact h
  by_cases hc : done.length < m
  · by_cases h47 : (47 : UInt8) ∈ rest
    · obtain ⟨p, q, hp, rfl⟩ := cut_at h47
      have hix := indexByte_cut (q := q) hp
      have hpl : (p ++ 47 :: q).length = p.length + (q.length + 1) := by simp
      repeat (first | (refine step_ops ?_; (first | (refine m_mov (by conv => lhs; whnf) ?_) | (refine m_lss rfl rfl ?_))) | refine end_ops ?_ | refine seq_ops ?_ | (refine cond_t rfl ?_ ?_; (· (refine decide_eq_true ?_; omega))) | refine skip_then ?_ | refine AW_seq ?_ | refine AW_block ?_)
      (refine step_ops ?_); (apply m_call (stringsIndex_spec (p ++ 47 :: q) (by omega))); (· repeat (first | exact lends_nil | (refine lends_cons ?_ ?_; (· exact lend_v))))
      rw [hix]
      repeat (first | (refine step_ops ?_; (first | (refine m_mov (by conv => lhs; whnf) ?_) | (refine m_lss rfl rfl ?_) | (refine m_add rfl rfl ?_ ?_ ?_; (· omega); (· omega)))) | refine end_ops ?_ | refine seq_ops ?_ | (refine cond_f rfl ?_ ?_; (· rfl)) | refine skip_then ?_ | refine AW_seq ?_)
      rw [show ((p.length : Int) + 0) = (p.length : Int) from Int.add_zero _]
      repeat (first | (refine step_ops ?_; (first | (refine m_mov (by conv => lhs; whnf) ?_) | (refine m_add rfl rfl ?_ ?_ ?_; (· omega); (· omega)) | (refine m_scutl rfl rfl ?_ ?_; (· first | omega | (simp; omega))) | (refine m_scuth rfl rfl ?_ ?_; (· first | omega | (simp; omega))) | (refine m_slen rfl ?_) | (refine m_idx1_sl rfl rfl ?_ ?_; (· omega)) | (apply m_st; (· rfl); (· rfl); (· rfl); (· first | omega | (simp; done) | (simp; omega)); (· rfl)))) | refine end_ops ?_ | refine seq_ops ?_ | refine AW_ops ?_ | refine norm_block ?_)
      rw [show ((p.length : Int) + (([47] : List UInt8).length : Int)) = ((p.length + 1 : Nat) : Int) by omega]
      skip
      have e1 : (p ++ 47 :: q).take p.length = p := by simp
      have e2 : (p ++ 47 :: q).drop (p.length + ([47] : List UInt8).length) = q := by rw [h47l, List.drop_append]; simp
      refine next_round (done ++ [p], q) ⟨by simp; omega, by simp; omega, ?_⟩ (weak_st ?_ ?_ rfl rfl) ?_
      · rw [← hres, show m - done.length = (m - (done ++ [p]).length) + 1 by simp; omega, splitNB_cut hp, List.append_assoc]
        rfl
      · rw [show (done ++ [p]).length = done.length + 1 by simp]
        rw [e1, e2]
        (repeat' (first | exact trivial | refine And.intro ?_ ?_)) <;> (first | rfl | skip)
      · refine ⟨?_, trivial⟩
        rw [← cutC_set done p (m + 1) (by omega), e1]
        rfl
      · simp; omega
    · have hix := indexByte_none h47
      have hfin : splitNB m B = done ++ [rest] := by rw [← hres, splitNB_one h47]
      repeat (first | (refine step_ops ?_; (first | (refine m_mov (by conv => lhs; whnf) ?_) | (refine m_lss rfl rfl ?_))) | refine end_ops ?_ | refine seq_ops ?_ | (refine cond_t rfl ?_ ?_; (· (refine decide_eq_true ?_; omega))) | refine skip_then ?_ | refine AW_seq ?_ | refine AW_block ?_)
      (refine step_ops ?_); (apply m_call (stringsIndex_spec rest (by omega))); (· repeat (first | exact lends_nil | (refine lends_cons ?_ ?_; (· exact lend_v))))
      rw [hix]
      repeat (first | (refine step_ops ?_; (first | (refine m_mov (by conv => lhs; whnf) ?_) | (refine m_lss rfl rfl ?_) | (refine m_add rfl rfl ?_ ?_ ?_; (· omega); (· omega)) | (refine m_idx1_sl rfl rfl ?_ ?_; (· omega)) | (apply m_st; (· rfl); (· rfl); (· rfl); (· first | omega | (simp; done) | (simp; omega)); (· rfl)))) | refine end_ops ?_ | refine seq_ops ?_ | (refine cond_t rfl ?_ ?_; (· rfl)) | refine AW_seq ?_ | refine norm_then ?_ | refine exit_then ?_ | refine exit_round ?_ | refine AW_exit ?_ | refine exit_block ?_ | (refine exit_other ?_ ?_; (· decide)))
      rw [show ((done.length : Int) + 1) = ((done.length + 1 : Nat) : Int) by omega]
      skip
      refine step_ops ?_
      refine m_cut_sl (l := 0) (h := done.length + 1) rfl rfl ⟨_, rfl⟩ (Nat.zero_le _) (by omega) ?_
      repeat (first | (refine step_ops ?_; (refine m_mov (by conv => lhs; whnf) ?_)) | refine end_ops ?_ | refine AW_ret ?_ | refine ret_done ?_)
      rw [hfin]
      exact hout rfl
  · have hfin : splitNB m B = done ++ [rest] := by rw [← hres, show m - done.length = 0 by omega]; rfl
    repeat (first | (refine step_ops ?_; (first | (refine m_mov (by conv => lhs; whnf) ?_) | (refine m_lss rfl rfl ?_) | (refine m_add rfl rfl ?_ ?_ ?_; (· omega); (· omega)) | (refine m_idx1_sl rfl rfl ?_ ?_; (· omega)) | (apply m_st; (· rfl); (· rfl); (· rfl); (· first | omega | (simp; done) | (simp; omega)); (· rfl)))) | refine end_ops ?_ | refine seq_ops ?_ | (refine cond_f rfl ?_ ?_; (· (refine decide_eq_false ?_; omega))) | refine AW_seq ?_ | refine norm_then ?_ | refine exit_then ?_ | refine exit_round ?_ | refine AW_exit ?_ | refine exit_block ?_)
    rw [show ((done.length : Int) + 1) = ((done.length + 1 : Nat) : Int) by omega]
    skip
    refine step_ops ?_
    refine m_cut_sl (l := 0) (h := done.length + 1) rfl rfl ⟨_, rfl⟩ (Nat.zero_le _) (by omega) ?_
    repeat (first | (refine step_ops ?_; (refine m_mov (by conv => lhs; whnf) ?_)) | refine end_ops ?_ | refine AW_ret ?_ | refine ret_done ?_)
    rw [hfin]
    exact hout rfl
theorem splitN_spec (B : List UInt8) (hB : B.length ≤ 1048576) : Sp Tryd.prog 61 [str B, str [47], .i 9] (.ro true 1 (strs (splitNB 8 B)) (splitNB 8 B).length) := by
  refine spec_of Tryd.func61 rfl cc61 rfl ?_
  unfold ac61
  repeat (first | (refine step_ops ?_; (first | (refine m_mov (by conv => lhs; whnf) ?_) | (refine m_nils ?_))) | refine end_ops ?_ | refine seq_ops ?_)
  refine step_ops ?_
  refine m_callo (genSplit_spec B hB) ?_ (strs_plain _) ?_
  · exact lends_cons lend_v (lends_cons lend_v (lends_cons lend_v (lends_cons lend_v lends_nil)))
  repeat (first | (refine step_ops ?_; (refine m_mov (by conv => lhs; whnf) ?_)) | refine end_ops ?_ | refine AW_ret ?_ | refine ret_done ?_)
  exact outs_sl rfl (by rw [strs_len, Nat.mul_one]) (strs_plain _)
end Go.Proofs.YtngfogpbljconaaDoor
namespace Go.Proofs.YtngfogpbljconaaDoor
variable [Go.Am.CodeBlk]
open Go.Am
attribute [local irreducible] AW Outs Weak Lends Lend Sp aops atree aop1 Then Round InBlock Done
theorem setHas_spec (a g : Nat) (ha : a < 65536) (hg : g < 16) : Sp Tryd.prog 71 [.u a, .i g] (.b (a.testBit g)) := by
  refine spec_of Tryd.func71 rfl cc71 rfl ?_
  unfold ac71
  repeat (first | (refine step_ops ?_; (refine m_mov (by conv => lhs; whnf) ?_)) | refine end_ops ?_ | refine seq_ops ?_)
  refine step_ops ?_
  refine m_shr16 (a := a) (k := g) rfl rfl hg ?_
  refine step_ops ?_
  refine m_and16_1 (a := a >>> g) rfl rfl (Nat.lt_of_le_of_lt (Nat.shiftRight_le a g) ha) ?_
  refine step_ops ?_
  refine m_eql16_1 (a := (a >>> g) &&& 1) rfl rfl ?_
  rw [bit_and]
  repeat (first | (refine step_ops ?_; (refine m_mov (by conv => lhs; whnf) ?_)) | refine end_ops ?_ | refine AW_ret ?_ | refine ret_done ?_)
  exact outs_b rfl
theorem outs_u {s : AS} {a b : Nat} (h : a = b) : Outs s (.u a) (.u b) := by
  subst h; exact outs_v
theorem setWith_spec (a g : Nat) (ha : a < 65536) (hg : g < 16) : Sp Tryd.prog 72 [.u a, .i g] (.u (a ||| 1 <<< g)) := by
  refine spec_of Tryd.func72 rfl cc72 rfl ?_
  unfold ac72
  repeat (first | (refine step_ops ?_; (refine m_mov (by conv => lhs; whnf) ?_)) | refine end_ops ?_ | refine seq_ops ?_)
  refine step_ops ?_
  refine m_shl16 (k := g) rfl rfl hg ?_
  refine step_ops ?_
  refine m_or16 (a := a) (b := 1 <<< g) rfl rfl ha (shl16_lt hg) ?_
  repeat (first | (refine step_ops ?_; (refine m_mov (by conv => lhs; whnf) ?_)) | refine end_ops ?_ | refine AW_ret ?_ | refine ret_done ?_)
  exact outs_u rfl
theorem notNodup {L : List Int} {k : Nat} (hk : k < L.length) (h : L.getD k 0 ∈ L.take k) : ¬ L.Nodup := by
  intro hn
  rw [← List.take_append_drop k L, List.nodup_append] at hn
  refine hn.2.2 _ h _ ?_ rfl
  have : L.drop k = L.getD k 0 :: L.drop (k + 1) := by rw [List.drop_eq_getElem_cons hk]; simp [hk]
  rw [this]
  exact List.mem_cons_self ..
theorem nodupSnoc {L : List Int} {k : Nat} (hk : k < L.length) (hn : (L.take k).Nodup) (h : L.getD k 0 ∉ L.take k) : (L.take (k + 1)).Nodup := by
  rw [take_snoc L k 0 hk, List.nodup_append]
  refine ⟨hn, by simp, ?_⟩
  intro a ha b hb hab
  rw [List.mem_singleton] at hb
  subst hb
  exact h (hab ▸ ha)
theorem areDifferent_spec (L : List Int) (n : Nat) (_hL : L.length ≤ 1048576) (hn16 : n ≤ 16) : Sp Tryd.prog 79 [ints L, .i n] (.b (decide ((∀ x ∈ L, 0 ≤ x ∧ x < (n : Int)) ∧ L.Nodup))) := by
  refine spec_of Tryd.func79 rfl cc79 rfl ?_
  unfold ac79
  repeat (first | (refine step_ops ?_; (first | (refine m_mov (by conv => lhs; whnf) ?_) | (refine m_len_ro rfl ?_))) | refine end_ops ?_ | refine seq_ops ?_ | refine AW_seq ?_ | refine AW_block ?_)
  refine AW_loop (α := Nat × Nat) (fun p => p.1 ≤ L.length ∧ p.2 < 65536 ∧ (∀ x ∈ L.take p.1, 0 ≤ x ∧ x < (n : Int)) ∧ (L.take p.1).Nodup ∧ ∀ i < 16, p.2.testBit i = decide ((i : Int) ∈ L.take p.1))
    (fun p => st [(0, ints L), (1, .i n), (5, .u p.2), (8, ints L), (9, .i L.length), (10, .i p.1)] []) (fun p => L.length - p.1) (0, 0) ⟨Nat.zero_le _, by decide, by simp, by simp, fun i _ => by simp⟩ (weak_st ?_ ?_ rfl rfl) ?_
  · (repeat' (first | exact trivial | refine And.intro ?_ ?_)) <;> (first | rfl | skip)
  · trivial
  rintro ⟨k, a⟩ ⟨hk, ha, hr, hn, hb⟩
  dsimp only at hk ha hr hn hb ⊢
  by_cases h : k < L.length
  · by_cases hx : 0 ≤ L.getD k 0 ∧ L.getD k 0 < (n : Int)
    · obtain ⟨i, hi⟩ := Int.eq_ofNat_of_zero_le hx.1
      have hi16 : i < 16 := by omega
      have hbi := hb i hi16
      by_cases hm : (i : Int) ∈ L.take k
      · have hbt : a.testBit i = true := by rw [hbi]; exact decide_eq_true hm
        repeat (first | (refine step_ops ?_; (first | (refine m_mov (by conv => lhs; whnf) ?_) | (refine m_lss rfl rfl ?_) | (refine m_idx1_ro rfl rfl ?_ ?_; (· omega)) | (refine m_ld_rpi rfl ?_ ?_; (· omega)))) | refine end_ops ?_ | refine seq_ops ?_ | (refine cond_t rfl ?_ ?_; (· (refine decide_eq_true ?_; omega))) | refine skip_then ?_ | refine AW_seq ?_ | refine AW_block ?_)
        (refine step_ops ?_); (apply m_call (isGuest_spec _ _)); (· repeat (first | exact lends_nil | (refine lends_cons ?_ ?_; (· exact lend_v))))
        repeat (refine step_ops ?_; ((try (refine g_yes rfl ?_ ?_; (· (refine nf ?_; assumption)))); (first | (refine m_mov (by conv => lhs; whnf) ?_) | (refine m_not rfl ?_))))
        rw [hi]
        skip
        (refine step_ops ?_); (refine g_yes rfl ?_ ?_; (· first | ((simp [*]; done)) | (fail)); (apply m_call (setHas_spec a i ha (by omega)))); (· repeat (first | exact lends_nil | (refine lends_cons ?_ ?_; (· exact lend_v))))
        repeat (first | (refine step_ops ?_; (first | (refine m_mov (by conv => lhs; whnf) ?_) | (refine m_pick_f rfl ?_ (by conv => lhs; whnf) ?_; (· (refine nf ?_; omega))))) | refine end_ops ?_ | refine seq_ops ?_ | (refine cond_t rfl ?_ ?_; (· assumption)) | refine AW_ret ?_ | refine ret_done ?_ | refine ret_then ?_ | refine ret_block ?_ | refine ret_round ?_)
        refine outs_b ?_
        symm
        exact decide_eq_false fun he => notNodup h (hi ▸ hm) he.2
      · have hbt : a.testBit i = false := by rw [hbi]; exact decide_eq_false hm
        repeat (first | (refine step_ops ?_; (first | (refine m_mov (by conv => lhs; whnf) ?_) | (refine m_lss rfl rfl ?_) | (refine m_idx1_ro rfl rfl ?_ ?_; (· omega)) | (refine m_ld_rpi rfl ?_ ?_; (· omega)))) | refine end_ops ?_ | refine seq_ops ?_ | (refine cond_t rfl ?_ ?_; (· (refine decide_eq_true ?_; omega))) | refine skip_then ?_ | refine AW_seq ?_ | refine AW_block ?_)
        (refine step_ops ?_); (apply m_call (isGuest_spec _ _)); (· repeat (first | exact lends_nil | (refine lends_cons ?_ ?_; (· exact lend_v))))
        repeat (refine step_ops ?_; ((try (refine g_yes rfl ?_ ?_; (· (refine nf ?_; assumption)))); (first | (refine m_mov (by conv => lhs; whnf) ?_) | (refine m_not rfl ?_))))
        rw [hi]
        skip
        (refine step_ops ?_); (refine g_yes rfl ?_ ?_; (· first | (fail) | ((refine nf ?_; omega))); (apply m_call (setHas_spec a i ha (by omega)))); (· repeat (first | exact lends_nil | (refine lends_cons ?_ ?_; (· exact lend_v))))
        repeat (first | (refine step_ops ?_; (first | (refine m_mov (by conv => lhs; whnf) ?_) | (refine m_pick_f rfl ?_ (by conv => lhs; whnf) ?_; (· (refine nf ?_; omega))))) | refine end_ops ?_ | refine AW_ops ?_ | (refine cond_f rfl ?_ ?_; (· assumption)) | refine skip_then ?_)
        (refine step_ops ?_); (apply m_call (setWith_spec a i ha (by omega))); (· repeat (first | exact lends_nil | (refine lends_cons ?_ ?_; (· exact lend_v))))
        repeat (first | (refine step_ops ?_; (first | (refine m_mov (by conv => lhs; whnf) ?_) | (refine m_add rfl rfl ?_ ?_ ?_; (· omega); (· omega)))) | refine end_ops ?_ | refine AW_ops ?_ | refine norm_then ?_ | refine norm_block ?_)
        refine next_round (k + 1, a ||| 1 <<< i) ⟨by omega, or16_lt ha (shl16_lt (by omega)), ?_, nodupSnoc h hn (hi ▸ hm), fun j hj => ?_⟩ (weak_st ?_ ?_ rfl rfl) ?_
        · rw [take_snoc L k 0 h]
          intro x hxm
          rw [List.mem_append, List.mem_singleton] at hxm
          rcases hxm with h1 | rfl
          · exact hr x h1
          · exact hx
        · rw [bit_or, hb j hj, take_snoc L k 0 h, Bool.eq_iff_iff]
          have hji : ((j : Int) = (i : Int)) ↔ j = i := by omega
          simp only [Bool.or_eq_true, decide_eq_true_eq, List.mem_append, List.mem_singleton, hi, hji]
        · (repeat' (first | exact trivial | refine And.intro ?_ ?_)) <;> (first | rfl | skip)
        · trivial
        · show L.length - (k + 1) < L.length - k
          omega
    · repeat (first | (refine step_ops ?_; (first | (refine m_mov (by conv => lhs; whnf) ?_) | (refine m_lss rfl rfl ?_) | (refine m_idx1_ro rfl rfl ?_ ?_; (· omega)) | (refine m_ld_rpi rfl ?_ ?_; (· omega)))) | refine end_ops ?_ | refine seq_ops ?_ | (refine cond_t rfl ?_ ?_; (· (refine decide_eq_true ?_; omega))) | refine skip_then ?_ | refine AW_seq ?_ | refine AW_block ?_)
      (refine step_ops ?_); (apply m_call (isGuest_spec _ _)); (· repeat (first | exact lends_nil | (refine lends_cons ?_ ?_; (· exact lend_v))))
      repeat (first | (refine step_ops ?_; (first | (first | (refine m_mov (by conv => lhs; whnf) ?_) | (refine m_not rfl ?_) | (refine m_pick_t rfl ?_ (by conv => lhs; whnf) ?_; (· (refine nt ?_; assumption)))) | (refine g_noF rfl ?_ ?_; (· (refine nt ?_; assumption))))) | refine end_ops ?_ | refine seq_ops ?_ | (refine cond_t rfl ?_ ?_; (· rfl)) | refine AW_ret ?_ | refine ret_done ?_ | refine ret_then ?_ | refine ret_block ?_ | refine ret_round ?_)
      refine outs_b ?_
      symm
      exact decide_eq_false fun he => hx (he.1 _ (getD_mem h))
  · repeat (first | (refine step_ops ?_; (first | (refine m_mov (by conv => lhs; whnf) ?_) | (refine m_lss rfl rfl ?_))) | refine end_ops ?_ | refine seq_ops ?_ | (refine cond_f rfl ?_ ?_; (· (refine decide_eq_false ?_; omega))) | refine AW_seq ?_ | refine AW_ret ?_ | refine ret_done ?_ | refine norm_then ?_ | refine exit_then ?_ | refine exit_round ?_ | refine AW_exit ?_ | refine exit_block ?_)
    refine outs_b ?_
    symm
    rw [List.take_of_length_le (by omega)] at hr hn
    exact decide_eq_true ⟨hr, hn⟩
end Go.Proofs.YtngfogpbljconaaDoor
namespace Go.Proofs.YtngfogpbljconaaDoor
variable [Go.Am.CodeBlk]
open Go.Am
attribute [local irreducible] AW Outs Weak Lends Lend Sp aops atree aop1 Then Round InBlock Done
/-- What an exchange is. -/
def IsEx (L : List Int) : Prop := 1 ≤ L.length ∧ L.length ≤ 12 ∧ (∀ x ∈ L, 0 ≤ x ∧ x < L.length) ∧ L.Nodup
instance (L : List Int) : Decidable (IsEx L) := inferInstanceAs (Decidable (_ ∧ _ ∧ _ ∧ _))
theorem l1Has_spec (L : List Int) (n : Int) (hL : L.length ≤ 1048576) : Sp Tryd.prog 53 [ints L, .i n] (.b (decide (n ∈ L))) := by
  refine spec_of Tryd.func53 rfl cc53 rfl ?_
  unfold ac53
  repeat (first | (refine step_ops ?_; (first | (refine m_mov (by conv => lhs; whnf) ?_) | (refine m_len_ro rfl ?_))) | refine end_ops ?_ | refine seq_ops ?_ | refine AW_seq ?_ | refine AW_block ?_)
  refine AW_loop (α := Nat) (fun k => k ≤ L.length ∧ n ∉ L.take k) (fun k => st [(7, ints L), (1, .i n), (8, .i L.length), (9, .i k)] []) (fun k => L.length - k) 0 (by simp) (weak_st ?_ ?_ rfl rfl) ?_
  · (repeat' (first | exact trivial | refine And.intro ?_ ?_)) <;> (first | rfl | skip)
  · trivial
  rintro k ⟨hk, he⟩
  by_cases h : k < L.length
  · by_cases hx : L.getD k 0 = n
    · repeat (first | (refine step_ops ?_; (first | (refine m_mov (by conv => lhs; whnf) ?_) | (refine m_lss rfl rfl ?_) | (refine m_eql rfl rfl ?_) | (refine m_idx1_ro rfl rfl ?_ ?_; (· omega)) | (refine m_ld_rpi rfl ?_ ?_; (· omega)))) | refine end_ops ?_ | refine seq_ops ?_ | (refine cond_t rfl ?_ ?_; (· first | (refine decide_eq_true ?_; assumption) | (refine decide_eq_true ?_; omega))) | refine skip_then ?_ | refine AW_seq ?_ | refine AW_ret ?_ | refine ret_done ?_ | refine ret_then ?_ | refine AW_block ?_ | refine ret_block ?_ | refine ret_round ?_)
      refine outs_b ?_
      symm
      exact decide_eq_true (hx ▸ getD_mem h)
    · repeat (first | (refine step_ops ?_; (first | (refine m_mov (by conv => lhs; whnf) ?_) | (refine m_lss rfl rfl ?_) | (refine m_eql rfl rfl ?_) | (refine m_add rfl rfl ?_ ?_ ?_; (· omega); (· omega)) | (refine m_idx1_ro rfl rfl ?_ ?_; (· omega)) | (refine m_ld_rpi rfl ?_ ?_; (· omega)))) | refine end_ops ?_ | refine seq_ops ?_ | refine AW_ops ?_ | (refine cond_t rfl ?_ ?_; (· (refine decide_eq_true ?_; omega))) | (refine cond_f rfl ?_ ?_; (· (refine decide_eq_false ?_; assumption))) | refine skip_then ?_ | refine AW_seq ?_ | refine norm_then ?_ | refine AW_block ?_ | refine norm_block ?_ | refine AW_skip ?_)
      refine next_round (k + 1) ⟨by omega, ?_⟩ (weak_st ?_ ?_ rfl rfl) ?_
      · rw [take_snoc L k 0 h, List.mem_append, List.mem_singleton]
        rintro (h1 | h1)
        · exact he h1
        · exact hx h1.symm
      · (repeat' (first | exact trivial | refine And.intro ?_ ?_)) <;> (first | rfl | skip)
      · trivial
      · omega
  · repeat (first | (refine step_ops ?_; (first | (refine m_mov (by conv => lhs; whnf) ?_) | (refine m_lss rfl rfl ?_))) | refine end_ops ?_ | refine seq_ops ?_ | (refine cond_f rfl ?_ ?_; (· (refine decide_eq_false ?_; omega))) | refine AW_seq ?_ | refine AW_ret ?_ | refine ret_done ?_ | refine norm_then ?_ | refine exit_then ?_ | refine exit_round ?_ | refine AW_exit ?_ | refine exit_block ?_)
    refine outs_b ?_
    symm
    rw [List.take_of_length_le (by omega)] at he
    exact decide_eq_false he
theorem l1All_spec (L : List Int) (lo hi : Int) (hL : L.length ≤ 1048576) : Sp Tryd.prog 82 [ints L, .i lo, .i hi] (.b (decide (∀ x ∈ L, lo ≤ x ∧ x ≤ hi))) := by
  refine spec_of Tryd.func82 rfl cc82 rfl ?_
  unfold ac82
  repeat (first | (refine step_ops ?_; (first | (refine m_mov (by conv => lhs; whnf) ?_) | (refine m_len_ro rfl ?_))) | refine end_ops ?_ | refine seq_ops ?_ | refine AW_seq ?_ | refine AW_block ?_)
  refine AW_loop (α := Nat) (fun k => k ≤ L.length ∧ ∀ x ∈ L.take k, lo ≤ x ∧ x ≤ hi) (fun k => st [(9, ints L), (1, .i lo), (2, .i hi), (10, .i L.length), (11, .i k)] []) (fun k => L.length - k) 0 (by simp) (weak_st ?_ ?_ rfl rfl) ?_
  · (repeat' (first | exact trivial | refine And.intro ?_ ?_)) <;> (first | rfl | skip)
  · trivial
  rintro k ⟨hk, he⟩
  by_cases h : k < L.length
  · by_cases hx : lo ≤ L.getD k 0 ∧ L.getD k 0 ≤ hi
    · repeat (first | (refine step_ops ?_; (first | (refine m_mov (by conv => lhs; whnf) ?_) | (refine m_lss rfl rfl ?_) | (refine m_idx1_ro rfl rfl ?_ ?_; (· omega)) | (refine m_ld_rpi rfl ?_ ?_; (· omega)))) | refine end_ops ?_ | refine seq_ops ?_ | (refine cond_t rfl ?_ ?_; (· (refine decide_eq_true ?_; omega))) | refine skip_then ?_ | refine AW_seq ?_ | refine AW_block ?_)
      (refine step_ops ?_); (apply m_call (l1In_spec _ _ _)); (· repeat (first | exact lends_nil | (refine lends_cons ?_ ?_; (· exact lend_v))))
      repeat (first | (refine step_ops ?_; (first | (refine m_mov (by conv => lhs; whnf) ?_) | (refine m_add rfl rfl ?_ ?_ ?_; (· omega); (· omega)) | (refine m_not rfl ?_))) | refine end_ops ?_ | refine AW_ops ?_ | (refine cond_f rfl ?_ ?_; (· (refine nf ?_; assumption))) | refine norm_then ?_ | refine norm_block ?_ | refine AW_skip ?_)
      refine next_round (k + 1) ⟨by omega, ?_⟩ (weak_st ?_ ?_ rfl rfl) ?_
      · rw [take_snoc L k 0 h]
        intro x hxm
        rw [List.mem_append, List.mem_singleton] at hxm
        rcases hxm with h1 | rfl
        · exact he x h1
        · exact hx
      · (repeat' (first | exact trivial | refine And.intro ?_ ?_)) <;> (first | rfl | skip)
      · trivial
      · omega
    · repeat (first | (refine step_ops ?_; (first | (refine m_mov (by conv => lhs; whnf) ?_) | (refine m_lss rfl rfl ?_) | (refine m_idx1_ro rfl rfl ?_ ?_; (· omega)) | (refine m_ld_rpi rfl ?_ ?_; (· omega)))) | refine end_ops ?_ | refine seq_ops ?_ | (refine cond_t rfl ?_ ?_; (· (refine decide_eq_true ?_; omega))) | refine skip_then ?_ | refine AW_seq ?_ | refine AW_block ?_)
      (refine step_ops ?_); (apply m_call (l1In_spec _ _ _)); (· repeat (first | exact lends_nil | (refine lends_cons ?_ ?_; (· exact lend_v))))
      repeat (first | (refine step_ops ?_; (first | (refine m_mov (by conv => lhs; whnf) ?_) | (refine m_not rfl ?_))) | refine end_ops ?_ | refine seq_ops ?_ | (refine cond_t rfl ?_ ?_; (· (refine nt ?_; assumption))) | refine AW_ret ?_ | refine ret_done ?_ | refine ret_then ?_ | refine ret_block ?_ | refine ret_round ?_)
      refine outs_b ?_
      symm
      exact decide_eq_false fun hall => hx (hall _ (getD_mem h))
  · repeat (first | (refine step_ops ?_; (first | (refine m_mov (by conv => lhs; whnf) ?_) | (refine m_lss rfl rfl ?_))) | refine end_ops ?_ | refine seq_ops ?_ | (refine cond_f rfl ?_ ?_; (· (refine decide_eq_false ?_; omega))) | refine AW_seq ?_ | refine AW_ret ?_ | refine ret_done ?_ | refine norm_then ?_ | refine exit_then ?_ | refine exit_round ?_ | refine AW_exit ?_ | refine exit_block ?_)
    refine outs_b ?_
    symm
    rw [List.take_of_length_le (by omega)] at he
    exact decide_eq_true he
theorem not_nodup {L : List Int} {k : Nat} (hk : k < L.length) (h : L.getD k 0 ∈ L.take k) : ¬ L.Nodup := by
  intro hn
  rw [← List.take_append_drop k L, List.nodup_append] at hn
  refine hn.2.2 _ h _ ?_ rfl
  have : L.drop k = L.getD k 0 :: L.drop (k + 1) := by rw [List.drop_eq_getElem_cons hk]; simp [hk]
  rw [this]
  exact List.mem_cons_self ..
theorem nodup_snoc {L : List Int} {k : Nat} (hk : k < L.length) (hn : (L.take k).Nodup) (h : L.getD k 0 ∉ L.take k) : (L.take (k + 1)).Nodup := by
  rw [take_snoc L k 0 hk, List.nodup_append]
  refine ⟨hn, by simp, ?_⟩
  intro a ha b hb hab
  rw [List.mem_singleton] at hb
  subst hb
  exact h (hab ▸ ha)
theorem implIsExchange_spec (L : List Int) (hL : L.length ≤ 1048576) : Sp Tryd.prog 56 [ints L] (.b (decide (IsEx L))) := by
  refine spec_of Tryd.func56 rfl cc56 rfl ?_
  unfold ac56
  by_cases hc : 1 ≤ (L.length : Int) ∧ (L.length : Int) ≤ 12
  · have hd := areDifferent_spec L L.length hL (by omega)
    have e : decide (IsEx L) = decide ((∀ x ∈ L, 0 ≤ x ∧ x < (L.length : Int)) ∧ L.Nodup) := decide_eq_decide.2 ⟨fun he => he.2.2, fun he => ⟨by omega, by omega, he⟩⟩
    rw [e]
    repeat (first | (refine step_ops ?_; (first | (refine m_mov (by conv => lhs; whnf) ?_) | (refine m_len_ro rfl ?_))) | refine end_ops ?_ | refine seq_ops ?_)
    (refine step_ops ?_); (apply m_call (isGuestCount_spec _)); (· repeat (first | exact lends_nil | (refine lends_cons ?_ ?_; (· exact lend_v))))
    repeat (refine step_ops ?_; ((try (refine g_yes rfl ?_ ?_; (· (refine decide_eq_true ?_; assumption)))); (first | (refine m_mov (by conv => lhs; whnf) ?_) | (refine m_len_ro rfl ?_))))
    (refine step_ops ?_); (refine g_yes rfl ?_ ?_; (· first | ((refine decide_eq_true ?_; assumption)) | (fail)); (apply m_call (hd))); (· repeat (first | exact lends_nil | (refine lends_cons ?_ ?_; (· (first | exact lend_v | (refine lend_ints ?_; first | rfl | omega))))))
    repeat (first | (refine step_ops ?_; (first | (refine m_mov (by conv => lhs; whnf) ?_) | (refine m_pick_t rfl ?_ (by conv => lhs; whnf) ?_; (· (refine decide_eq_true ?_; assumption))))) | refine end_ops ?_ | refine AW_ret ?_ | refine ret_done ?_)
    exact outs_b rfl
  · repeat (first | (refine step_ops ?_; (first | (refine m_mov (by conv => lhs; whnf) ?_) | (refine m_len_ro rfl ?_))) | refine end_ops ?_ | refine seq_ops ?_)
    (refine step_ops ?_); (apply m_call (isGuestCount_spec _)); (· repeat (first | exact lends_nil | (refine lends_cons ?_ ?_; (· exact lend_v))))
    repeat (first | (refine step_ops ?_; (first | (first | (refine m_mov (by conv => lhs; whnf) ?_) | (refine m_pick_f rfl ?_ (by conv => lhs; whnf) ?_; (· (refine decide_eq_false ?_; assumption)))) | (refine g_noT rfl ?_ ?_; (· (refine decide_eq_false ?_; assumption))))) | refine end_ops ?_ | refine AW_ret ?_ | refine ret_done ?_)
    refine outs_b ?_
    symm
    exact decide_eq_false fun he => hc ⟨by have := he.1; omega, by have := he.2.1; omega⟩
theorem exGood_spec (L : List Int) (hL : L.length ≤ 1048576) : Sp Tryd.prog 59 [ints L] (.b (decide (IsEx L))) := by
  refine spec_of Tryd.func59 rfl cc59 rfl ?_
  unfold ac59
  by_cases hc : 1 ≤ (L.length : Int) ∧ (L.length : Int) ≤ 12
  · by_cases hall : ∀ x ∈ L, 0 ≤ x ∧ x ≤ (L.length : Int) - 1
    · repeat (first | (refine step_ops ?_; (first | (refine m_mov (by conv => lhs; whnf) ?_) | (refine m_len_ro rfl ?_))) | refine end_ops ?_ | refine seq_ops ?_ | refine AW_seq ?_)
      (refine step_ops ?_); (apply m_call (l1In_spec _ _ _)); (· repeat (first | exact lends_nil | (refine lends_cons ?_ ?_; (· exact lend_v))))
      repeat (refine step_ops ?_; ((try (refine g_yes rfl ?_ ?_; (· (simp [*]; done)))); (first | (refine m_mov (by conv => lhs; whnf) ?_) | (refine m_sub rfl rfl ?_ ?_ ?_; (· omega); (· omega)) | (refine m_not rfl ?_) | (refine m_len_ro rfl ?_))))
      (refine step_ops ?_); (refine g_yes rfl ?_ ?_; (· first | ((simp [*]; done)) | (fail)); (apply m_call (l1All_spec _ _ _ hL))); (· repeat (first | exact lends_nil | (refine lends_cons ?_ ?_; (· (first | exact lend_v | (refine lend_ints ?_; first | rfl | omega))))))
      repeat (first | (refine step_ops ?_; ((try (refine g_yes rfl ?_ ?_; (· (simp [*]; done)))); (first | (refine m_mov (by conv => lhs; whnf) ?_) | (refine m_not rfl ?_) | (refine m_len_ro rfl ?_) | (refine m_pick_f rfl ?_ (by conv => lhs; whnf) ?_; (· (refine nf ?_; assumption)))))) | refine end_ops ?_ | refine seq_ops ?_ | (refine cond_f rfl ?_ ?_; (· (refine nf ?_; assumption))) | refine skip_then ?_ | refine AW_seq ?_ | refine AW_block ?_)
      refine AW_loop (α := Nat) (fun k => k ≤ L.length ∧ (L.take k).Nodup) (fun k => st [(0, ints L), (17, ints L), (18, .i L.length), (19, .i k)] []) (fun k => L.length - k) 0 (by simp) (weak_st ?_ ?_ rfl rfl) ?_
      · (repeat' (first | exact trivial | refine And.intro ?_ ?_)) <;> (first | rfl | skip)
      · trivial
      rintro k ⟨hk, hn⟩
      by_cases h : k < L.length
      · have hlt : (L.take k).length ≤ 1048576 := by simp; omega
        by_cases hm : L.getD k 0 ∈ L.take k
        · repeat (first | (refine step_ops ?_; (first | (refine m_mov (by conv => lhs; whnf) ?_) | (refine m_lss rfl rfl ?_) | (refine m_idx1_ro rfl rfl ?_ ?_; (· omega)) | (refine m_ld_rpi rfl ?_ ?_; (· omega)) | (refine m_cut_hi rfl rfl ?_ ?_ ?_; (· first | rfl | omega | simp); (· first | omega | (simp; omega))))) | refine end_ops ?_ | refine seq_ops ?_ | (refine cond_t rfl ?_ ?_; (· (refine decide_eq_true ?_; omega))) | refine skip_then ?_ | refine AW_seq ?_ | refine AW_block ?_)
          (refine step_ops ?_); (apply m_call (l1Has_spec _ _ hlt)); (· repeat (first | exact lends_nil | (refine lends_cons ?_ ?_; (· (first | exact lend_v | (refine lend_ints ?_; first | rfl | omega))))))
          repeat (first | (refine step_ops ?_; (refine m_mov (by conv => lhs; whnf) ?_)) | refine end_ops ?_ | refine seq_ops ?_ | (refine cond_t rfl ?_ ?_; (· (refine decide_eq_true ?_; assumption))) | refine AW_ret ?_ | refine ret_done ?_ | refine ret_then ?_ | refine ret_block ?_ | refine ret_round ?_)
          refine outs_b ?_
          symm
          exact decide_eq_false fun he => not_nodup h hm he.2.2.2
        · repeat (first | (refine step_ops ?_; (first | (refine m_mov (by conv => lhs; whnf) ?_) | (refine m_lss rfl rfl ?_) | (refine m_idx1_ro rfl rfl ?_ ?_; (· omega)) | (refine m_ld_rpi rfl ?_ ?_; (· omega)) | (refine m_cut_hi rfl rfl ?_ ?_ ?_; (· first | rfl | omega | simp); (· first | omega | (simp; omega))))) | refine end_ops ?_ | refine seq_ops ?_ | (refine cond_t rfl ?_ ?_; (· (refine decide_eq_true ?_; omega))) | refine skip_then ?_ | refine AW_seq ?_ | refine AW_block ?_)
          (refine step_ops ?_); (apply m_call (l1Has_spec _ _ hlt)); (· repeat (first | exact lends_nil | (refine lends_cons ?_ ?_; (· (first | exact lend_v | (refine lend_ints ?_; first | rfl | omega))))))
          repeat (first | (refine step_ops ?_; (first | (refine m_mov (by conv => lhs; whnf) ?_) | (refine m_add rfl rfl ?_ ?_ ?_; (· omega); (· omega)))) | refine end_ops ?_ | refine AW_ops ?_ | (refine cond_f rfl ?_ ?_; (· (refine decide_eq_false ?_; assumption))) | refine norm_then ?_ | refine norm_block ?_ | refine AW_skip ?_)
          refine next_round (k + 1) ⟨by omega, nodup_snoc h hn hm⟩ (weak_st ?_ ?_ rfl rfl) ?_
          · (repeat' (first | exact trivial | refine And.intro ?_ ?_)) <;> (first | rfl | skip)
          · trivial
          · omega
      · repeat (first | (refine step_ops ?_; (first | (refine m_mov (by conv => lhs; whnf) ?_) | (refine m_lss rfl rfl ?_))) | refine end_ops ?_ | refine seq_ops ?_ | (refine cond_f rfl ?_ ?_; (· (refine decide_eq_false ?_; omega))) | refine AW_seq ?_ | refine AW_ret ?_ | refine ret_done ?_ | refine norm_then ?_ | refine exit_then ?_ | refine exit_round ?_ | refine AW_exit ?_ | refine exit_block ?_)
        refine outs_b ?_
        symm
        rw [List.take_of_length_le (by omega)] at hn
        exact decide_eq_true ⟨by omega, by omega, fun x hx => ⟨(hall x hx).1, by have := (hall x hx).2; omega⟩, hn⟩
    · repeat (first | (refine step_ops ?_; (first | (refine m_mov (by conv => lhs; whnf) ?_) | (refine m_len_ro rfl ?_))) | refine end_ops ?_ | refine seq_ops ?_ | refine AW_seq ?_)
      (refine step_ops ?_); (apply m_call (l1In_spec _ _ _)); (· repeat (first | exact lends_nil | (refine lends_cons ?_ ?_; (· exact lend_v))))
      repeat (refine step_ops ?_; ((try (refine g_yes rfl ?_ ?_; (· (simp [*]; done)))); (first | (refine m_mov (by conv => lhs; whnf) ?_) | (refine m_sub rfl rfl ?_ ?_ ?_; (· omega); (· omega)) | (refine m_not rfl ?_) | (refine m_len_ro rfl ?_))))
      (refine step_ops ?_); (refine g_yes rfl ?_ ?_; (· first | ((simp [*]; done)) | (fail)); (apply m_call (l1All_spec _ _ _ hL))); (· repeat (first | exact lends_nil | (refine lends_cons ?_ ?_; (· (first | exact lend_v | (refine lend_ints ?_; first | rfl | omega))))))
      repeat (first | (refine step_ops ?_; ((try (refine g_yes rfl ?_ ?_; (· (simp [*]; done)))); (first | (refine m_mov (by conv => lhs; whnf) ?_) | (refine m_not rfl ?_) | (refine m_pick_f rfl ?_ (by conv => lhs; whnf) ?_; (· (refine nf ?_; assumption)))))) | refine end_ops ?_ | refine seq_ops ?_ | (refine cond_t rfl ?_ ?_; (· (refine nt ?_; assumption))) | refine AW_ret ?_ | refine ret_done ?_ | refine ret_then ?_)
      refine outs_b ?_
      symm
      exact decide_eq_false fun he => hall fun x hx => ⟨(he.2.2.1 x hx).1, by have := (he.2.2.1 x hx).2; omega⟩
  · repeat (first | (refine step_ops ?_; (first | (refine m_mov (by conv => lhs; whnf) ?_) | (refine m_len_ro rfl ?_))) | refine end_ops ?_ | refine seq_ops ?_ | refine AW_seq ?_)
    (refine step_ops ?_); (apply m_call (l1In_spec _ _ _)); (· repeat (first | exact lends_nil | (refine lends_cons ?_ ?_; (· exact lend_v))))
    repeat (first | (refine step_ops ?_; (first | (first | (refine m_mov (by conv => lhs; whnf) ?_) | (refine m_not rfl ?_) | (refine m_pick_t rfl ?_ (by conv => lhs; whnf) ?_; (· (refine nt ?_; assumption)))) | (refine g_noF rfl ?_ ?_; (· (refine nt ?_; assumption))))) | refine end_ops ?_ | refine seq_ops ?_ | (refine cond_t rfl ?_ ?_; (· rfl)) | refine AW_ret ?_ | refine ret_done ?_ | refine ret_then ?_)
    refine outs_b ?_
    symm
    exact decide_eq_false fun he => hc ⟨by have := he.1; omega, by have := he.2.1; omega⟩
end Go.Proofs.YtngfogpbljconaaDoor
namespace Go.Proofs.YtngfogpbljconaaDoor
variable [Go.Am.CodeBlk]
open Go.Am
attribute [local irreducible] AW Outs Weak Lends Lend Sp aops atree aop1 Then Round InBlock Done
theorem drop_cut {B : List UInt8} {a i : Nat} (h1 : a ≤ i) (h2 : i < B.length) : B.drop a = (B.drop a).take (i - a) ++ B.getD i 0 :: B.drop (i + 1) := by
  have h3 := List.take_append_drop (i - a) (B.drop a)
  rw [List.drop_drop, show a + (i - a) = i by omega] at h3
  rw [← h3]
  congr 1
  · rw [h3]
  · rw [getD_get h2]
    exact List.drop_eq_getElem_cons h2
theorem u8_eq {c : UInt8} {n : Nat} (h : c.toNat = n) (k : UInt8) (hk : k.toNat = n) : c = k := UInt8.toNat_inj.1 (h.trans hk.symm)
theorem l1Split_spec (B : List UInt8) (hB : B.length ≤ 1048576) : Sp Tryd.prog 63 [str B, .v (.int .u8 47)] (.ro true 1 (strs (splitB B)) (splitB B).length) := by
  have hcnt : B.count 47 ≤ B.length := List.count_le_length
  refine spec_of Tryd.func63 rfl cc63 rfl ?_
  unfold ac63
  repeat (first | (refine step_ops ?_; (first | (refine m_mov (by conv => lhs; whnf) ?_) | (refine m_nils ?_))) | refine end_ops ?_ | refine seq_ops ?_ | refine AW_seq ?_ | refine AW_block ?_)
  refine AW_loop (α := List (List UInt8) × Nat × Nat) (fun a => a.2.1 ≤ a.2.2 ∧ a.2.2 ≤ B.length ∧ (47 : UInt8) ∉ (B.drop a.2.1).take (a.2.2 - a.2.1) ∧ a.1 ++ splitB (B.drop a.2.1) = splitB B)
    (fun a => st [(0, str B), (1, .v (.int .u8 47)), (5, .sl 5 1 0 a.1.length), (6, .i a.2.1), (7, .i a.2.2)] [(5, (true, strs a.1))]) (fun a => B.length - a.2.2) ([], 0, 0) ⟨Nat.le_refl _, Nat.zero_le _, by simp, by simp⟩ (weak_st ?_ ?_ rfl rfl) ?_
  · (repeat' (first | exact trivial | refine And.intro ?_ ?_)) <;> (first | rfl | skip)
  · (repeat' (first | exact trivial | refine And.intro ?_ ?_)) <;> (first | rfl | skip)
  rintro ⟨done, a, i⟩ ⟨h1, h2, h3, h4⟩
  dsimp only at h1 h2 h3 h4 ⊢
  have hdl : done.length + 1 ≤ B.length + 1 := by
    have h5 := congrArg List.length h4
    rw [List.length_append, splitB_len, splitB_len] at h5
    omega
  have hsl := strs_len done
  have hd1 : ∀ p, (done ++ [p]).length = done.length + 1 := fun p => by simp
  have hd2 : ∀ p, strs (done ++ [p]) = strs done ++ [str p] := fun p => by simp [strs]
  by_cases hc : i < B.length
  · have hdc := drop_cut h1 hc
    by_cases h47 : B.getD i 0 = 47
    · have h47' : ((B.getD i 0).toNat : Int) = 47 := by rw [h47]; rfl
      rw [h47] at hdc
      repeat (first | (refine step_ops ?_; (first | (refine m_mov (by conv => lhs; whnf) ?_) | (refine m_lss rfl rfl ?_) | (refine m_eqk rfl rfl ?_) | (refine m_add rfl rfl ?_ ?_ ?_; (· omega); (· omega)) | (refine m_scutb rfl rfl rfl ?_ ?_ ?_; (· omega); (· first | omega | (simp; omega))) | (refine m_slen rfl ?_) | (refine m_six' rfl rfl ?_ ?_; (· first | omega | (simp; omega))) | (refine m_bsl1 rfl rfl ?_) | (refine m_app1 rfl (by decide) rfl (by first | (simp; done) | (simp [*]; done) | (simp; omega)) rfl rfl rfl ?_ (by decide) ?_; (· first | omega | (simp; omega))))) | refine end_ops ?_ | refine seq_ops ?_ | refine AW_ops ?_ | (refine cond_t rfl ?_ ?_; (· first | (refine decide_eq_true ?_; assumption) | (refine decide_eq_true ?_; omega))) | refine skip_then ?_ | refine AW_seq ?_ | refine norm_then ?_ | refine AW_block ?_ | refine norm_block ?_)
      refine next_round (done ++ [(B.drop a).take (i - a)], i + 1, i + 1) ⟨Nat.le_refl _, hc, by simp, ?_⟩ (Weak.trans (weak_move (r := 25) (q := 5) rfl (by decide) (by decide)) (weak_st ?_ ?_ rfl rfl)) ?_
      · have h5 : splitB (B.drop a) = (B.drop a).take (i - a) :: splitB (B.drop (i + 1)) := by
          conv => lhs; rw [hdc]
          exact splitB_cut h3
        show (done ++ [(B.drop a).take (i - a)]) ++ splitB (B.drop (i + 1)) = splitB B
        rw [← h4, h5, List.append_assoc]
        rfl
      · rw [hd1]
        (repeat' (first | exact trivial | refine And.intro ?_ ?_)) <;> (first | rfl | skip)
      · rw [hd2]
        (repeat' (first | exact trivial | refine And.intro ?_ ?_)) <;> (first | rfl | skip)
      · show B.length - (i + 1) < B.length - i; omega
    · have h47' : ¬ ((B.getD i 0).toNat : Int) = 47 := fun e => h47 (u8_eq (n := 47) (by omega) 47 rfl)
      repeat (first | (refine step_ops ?_; (first | (refine m_mov (by conv => lhs; whnf) ?_) | (refine m_lss rfl rfl ?_) | (refine m_eqk rfl rfl ?_) | (refine m_add rfl rfl ?_ ?_ ?_; (· omega); (· omega)) | (refine m_slen rfl ?_) | (refine m_six' rfl rfl ?_ ?_; (· first | omega | (simp; omega))))) | refine end_ops ?_ | refine seq_ops ?_ | refine AW_ops ?_ | (refine cond_t rfl ?_ ?_; (· (refine decide_eq_true ?_; omega))) | (refine cond_f rfl ?_ ?_; (· (refine decide_eq_false ?_; assumption))) | refine skip_then ?_ | refine AW_seq ?_ | refine norm_then ?_ | refine AW_block ?_ | refine norm_block ?_ | refine AW_skip ?_)
      refine next_round (done, a, i + 1) ⟨by show a ≤ i + 1; omega, hc, ?_, h4⟩ (weak_st ?_ ?_ rfl rfl) ?_
      · show (47 : UInt8) ∉ (B.drop a).take (i + 1 - a)
        have h6 : (B.drop a).getD (i - a) 0 = B.getD i 0 := by
          rw [getD_get (by simp; omega), getD_get hc]
          simp [show a + (i - a) = i by omega]
        rw [show i + 1 - a = (i - a) + 1 by omega, take_snoc _ _ 0 (by simp; omega), h6]
        simp only [List.mem_append, List.mem_singleton, not_or]
        exact ⟨h3, fun e => h47 e.symm⟩
      · (repeat' (first | exact trivial | refine And.intro ?_ ?_)) <;> (first | rfl | skip)
      · (repeat' (first | exact trivial | refine And.intro ?_ ?_)) <;> (first | rfl | skip)
      · show B.length - (i + 1) < B.length - i; omega
  · obtain rfl : i = B.length := by omega
    have hn : (47 : UInt8) ∉ B.drop a := by rwa [List.take_of_length_le (by simp)] at h3
    have hfin : splitB B = done ++ [B.drop a] := by rw [← h4, splitB_one hn]
    repeat (first | (refine step_ops ?_; (first | (refine m_mov (by conv => lhs; whnf) ?_) | (refine m_lss rfl rfl ?_) | (refine m_scutl rfl rfl ?_ ?_; (· first | omega | (simp; omega))) | (refine m_slen rfl ?_) | (refine m_bsl1 rfl rfl ?_) | (refine m_app1 rfl (by decide) rfl (by first | (simp; done) | (simp [*]; done) | (simp; omega)) rfl rfl rfl ?_ (by decide) ?_; (· first | omega | (simp; omega))))) | refine end_ops ?_ | refine seq_ops ?_ | (refine cond_f rfl ?_ ?_; (· (refine decide_eq_false ?_; omega))) | refine AW_seq ?_ | refine AW_ret ?_ | refine ret_done ?_ | refine norm_then ?_ | refine exit_then ?_ | refine exit_round ?_ | refine AW_exit ?_ | refine exit_block ?_)
    rw [hfin, hd1, hd2]
    exact outs_sl rfl (by simp [strs_len]) (by simp [strs, plainV])
theorem bdSide_spec (B : List UInt8) (hB : B.length ≤ 1048576) : Sp Tryd.prog 51 [str B] (.i (sdB B : Nat)) := by
  refine spec_of Tryd.func51 rfl cc51 rfl ?_
  unfold ac51
  repeat (first | (refine step_ops ?_; (refine m_mov (by conv => lhs; whnf) ?_)) | refine end_ops ?_ | refine seq_ops ?_)
  refine step_ops ?_
  refine m_callo (l1Split_spec B hB) ?_ (strs_plain _) ?_
  · exact lends_cons lend_v (lends_cons lend_v lends_nil)
  repeat (first | (refine step_ops ?_; (first | (refine m_mov (by conv => lhs; whnf) ?_) | (refine m_len_sl rfl ?_))) | refine end_ops ?_ | refine AW_ret ?_ | refine ret_done ?_)
  exact outs_i (by rw [splitB_len]; rfl)
end Go.Proofs.YtngfogpbljconaaDoor
namespace Go.Proofs.YtngfogpbljconaaDoor
variable [Go.Am.CodeBlk]
open Go.Am
attribute [local irreducible] AW Outs Weak Lends Lend Sp aops atree aop1 Then Round InBlock Done
theorem strs_at {l : List (List UInt8)} {k : Nat} (h : k < l.length) : ((strs l).drop k)[0]? = some (str (l.getD k [])) := by
  simp [strs, h]
/-- A row that is one of n signs. -/
def OkRow (n : Nat) (r : List UInt8) : Prop := r.length = n ∧ ∀ c ∈ r, c = 46 ∨ c = 35
theorem good_iff {B : List UInt8} (h : B.count 47 ≤ 7) : GoodBd B ↔ ∀ i < sdB B, OkRow (sdB B) ((splitB B).getD i []) := by
  have hl := splitB_len B
  constructor
  · intro hg i hi
    exact hg.2 _ (getD_memL (by rw [hl]; exact hi))
  · intro hg
    refine ⟨h, fun r hr => ?_⟩
    obtain ⟨i, hi, rfl⟩ := List.getElem_of_mem hr
    have := hg i (by rw [hl] at hi; exact hi)
    rw [getD_get hi] at this
    exact this
theorem all_snoc {n : Nat} {rows : List (List UInt8)} {k : Nat} (h : ∀ i < k, OkRow n (rows.getD i [])) (hk : OkRow n (rows.getD k [])) : ∀ i < k + 1, OkRow n (rows.getD i []) := by
  intro i hi
  by_cases e : i = k
  · subst e; exact hk
  · exact h i (by omega)
theorem bdGood_spec (B : List UInt8) (hB : B.length ≤ 1048576) : Sp Tryd.prog 42 [str B] (.b (decide (GoodBd B))) := by
  have hl := splitB_len B
  refine spec_of Tryd.func42 rfl cc42 rfl ?_
  unfold ac42
  by_cases h72 : B.length ≤ 72
  · by_cases hc7 : B.count 47 ≤ 7
    · repeat (first | (refine step_ops ?_; (first | (refine m_mov (by conv => lhs; whnf) ?_) | (refine m_gtr rfl rfl ?_) | (refine m_slen rfl ?_))) | refine end_ops ?_ | refine seq_ops ?_ | (refine cond_f rfl ?_ ?_; (· (refine decide_eq_false ?_; omega))) | refine skip_then ?_ | refine AW_seq ?_)
      (refine step_ops ?_); (apply m_call (l1Split_spec B hB)); (· repeat (first | exact lends_nil | (refine lends_cons ?_ ?_; (· exact lend_v))))
      repeat (first | (refine step_ops ?_; (first | (refine m_mov (by conv => lhs; whnf) ?_) | (refine m_len_ro rfl ?_))) | refine end_ops ?_ | refine seq_ops ?_ | refine AW_seq ?_)
      (refine step_ops ?_); (apply m_call (l1In_spec _ _ _)); (· repeat (first | exact lends_nil | (refine lends_cons ?_ ?_; (· exact lend_v))))
      repeat (first | (refine step_ops ?_; (first | (refine m_mov (by conv => lhs; whnf) ?_) | (refine m_not rfl ?_) | (refine m_len_ro rfl ?_))) | refine end_ops ?_ | refine seq_ops ?_ | (refine cond_f rfl ?_ ?_; (· (refine nf ?_; omega))) | refine skip_then ?_ | refine AW_seq ?_ | refine AW_block ?_)
      refine AW_loop (α := Nat) (fun k => k ≤ sdB B ∧ ∀ i < k, OkRow (sdB B) ((splitB B).getD i [])) (fun k => st [(3, .ro true 1 (strs (splitB B)) (splitB B).length), (16, .ro true 1 (strs (splitB B)) (splitB B).length), (17, .i (splitB B).length), (18, .i k)] []) (fun k => sdB B - k) 0 ⟨Nat.zero_le _, fun i hi => by omega⟩ (weak_st ?_ ?_ rfl rfl) ?_
      · (repeat' (first | exact trivial | refine And.intro ?_ ?_)) <;> (first | rfl | skip)
      · trivial
      rintro k ⟨hk, hok⟩
      have hsd : sdB B = (splitB B).length := hl.symm
      by_cases hc : k < (splitB B).length
      · have hat := strs_at hc
        obtain ⟨row, hrow⟩ : ∃ row, row = (splitB B).getD k [] := ⟨_, rfl⟩
        rw [← hrow] at hat
        have hsn : OkRow (sdB B) row → ∀ i < k + 1, OkRow (sdB B) ((splitB B).getD i []) := fun h => all_snoc hok (by rw [← hrow]; exact h)
        have hbad : ¬ OkRow (sdB B) row → ¬ GoodBd B := fun h hg => h (by rw [hrow]; exact (good_iff hc7).1 hg k (by omega))
        by_cases hlen : row.length = (splitB B).length
        · repeat (first | (refine step_ops ?_; (first | (refine m_lss rfl rfl ?_) | (refine m_idx1_ro rfl rfl ?_ ?_; (· omega)))) | refine end_ops ?_ | refine seq_ops ?_ | (refine cond_t rfl ?_ ?_; (· (refine decide_eq_true ?_; omega))) | refine skip_then ?_ | refine AW_seq ?_ | refine AW_block ?_)
          refine step_ops ?_
          refine m_ld_rp rfl hat ?_
          repeat (first | (refine step_ops ?_; (first | (refine m_mov (by conv => lhs; whnf) ?_) | (refine m_neq rfl rfl ?_) | (refine m_slen rfl ?_) | (refine m_len_ro rfl ?_))) | refine end_ops ?_ | refine seq_ops ?_ | (refine cond_f rfl ?_ ?_; (· (refine decide_eq_false ?_; omega))) | refine skip_then ?_ | refine AW_seq ?_ | refine AW_block ?_)
          refine AW_loop (α := Nat) (fun j => j ≤ row.length ∧ ∀ c ∈ row.take j, c = 46 ∨ c = 35) (fun j => st [(3, .ro true 1 (strs (splitB B)) (splitB B).length), (5, str row), (6, .i j), (16, .ro true 1 (strs (splitB B)) (splitB B).length), (17, .i (splitB B).length), (18, .i k)] []) (fun j => row.length - j) 0 ⟨Nat.zero_le _, fun c hc => by simp at hc⟩ (weak_st ?_ ?_ rfl rfl) ?_
          · (repeat' (first | exact trivial | refine And.intro ?_ ?_)) <;> (first | rfl | skip)
          · trivial
          rintro j ⟨hj, hjok⟩
          by_cases hcj : j < row.length
          · have hts := take_snoc row j 0 hcj
            by_cases h46 : row.getD j 0 = 46
            · have h46' : ((row.getD j 0).toNat : Int) = 46 := by rw [h46]; rfl
              repeat (first | (refine step_ops ?_; (first | (first | (refine m_mov (by conv => lhs; whnf) ?_) | (refine m_lss rfl rfl ?_) | (refine m_neqk rfl rfl ?_) | (refine m_add rfl rfl ?_ ?_ ?_; (· omega); (· omega)) | (refine m_slen rfl ?_) | (refine m_six' rfl rfl ?_ ?_; (· first | omega | (simp; omega))) | (refine m_pick_f rfl ?_ (by conv => lhs; whnf) ?_; (· (refine decide_eq_false ?_; omega)))) | (refine g_noT rfl ?_ ?_; (· (refine decide_eq_false ?_; omega))))) | refine end_ops ?_ | refine seq_ops ?_ | refine AW_ops ?_ | (refine cond_t rfl ?_ ?_; (· (refine decide_eq_true ?_; omega))) | (refine cond_f rfl ?_ ?_; (· rfl)) | refine skip_then ?_ | refine AW_seq ?_ | refine norm_then ?_ | refine AW_block ?_ | refine norm_block ?_ | refine AW_skip ?_)
              refine next_round (j + 1) ⟨hcj, fun c hc => ?_⟩ (weak_st ?_ ?_ rfl rfl) ?_
              · rw [hts] at hc
                rcases List.mem_append.1 hc with hc | hc
                · exact hjok c hc
                · rw [List.mem_singleton.1 hc]; exact .inl h46
              · (repeat' (first | exact trivial | refine And.intro ?_ ?_)) <;> (first | rfl | skip)
              · trivial
              · omega
            · have h46' : ¬ ((row.getD j 0).toNat : Int) = 46 := fun e => h46 (u8_eq (n := 46) (by omega) 46 rfl)
              by_cases h35 : row.getD j 0 = 35
              · have h35' : ((row.getD j 0).toNat : Int) = 35 := by rw [h35]; rfl
                repeat (first | (refine step_ops ?_; ((try (refine g_yes rfl ?_ ?_; (· (refine decide_eq_true ?_; assumption)))); (first | (refine m_mov (by conv => lhs; whnf) ?_) | (refine m_lss rfl rfl ?_) | (refine m_neqk rfl rfl ?_) | (refine m_add rfl rfl ?_ ?_ ?_; (· omega); (· omega)) | (refine m_slen rfl ?_) | (refine m_six' rfl rfl ?_ ?_; (· first | omega | (simp; omega))) | (refine m_pick_t rfl ?_ (by conv => lhs; whnf) ?_; (· (refine decide_eq_true ?_; assumption)))))) | refine end_ops ?_ | refine seq_ops ?_ | refine AW_ops ?_ | (refine cond_t rfl ?_ ?_; (· (refine decide_eq_true ?_; omega))) | (refine cond_f rfl ?_ ?_; (· (refine decide_eq_false ?_; omega))) | refine skip_then ?_ | refine AW_seq ?_ | refine norm_then ?_ | refine AW_block ?_ | refine norm_block ?_ | refine AW_skip ?_)
                refine next_round (j + 1) ⟨hcj, fun c hc => ?_⟩ (weak_st ?_ ?_ rfl rfl) ?_
                · rw [hts] at hc
                  rcases List.mem_append.1 hc with hc | hc
                  · exact hjok c hc
                  · rw [List.mem_singleton.1 hc]; exact .inr h35
                · (repeat' (first | exact trivial | refine And.intro ?_ ?_)) <;> (first | rfl | skip)
                · trivial
                · omega
              · have h35' : ¬ ((row.getD j 0).toNat : Int) = 35 := fun e => h35 (u8_eq (n := 35) (by omega) 35 rfl)
                repeat (first | (refine step_ops ?_; ((try (refine g_yes rfl ?_ ?_; (· (refine decide_eq_true ?_; assumption)))); (first | (refine m_mov (by conv => lhs; whnf) ?_) | (refine m_lss rfl rfl ?_) | (refine m_neqk rfl rfl ?_) | (refine m_slen rfl ?_) | (refine m_six' rfl rfl ?_ ?_; (· first | omega | (simp; omega))) | (refine m_pick_t rfl ?_ (by conv => lhs; whnf) ?_; (· (refine decide_eq_true ?_; assumption)))))) | refine end_ops ?_ | refine seq_ops ?_ | (refine cond_t rfl ?_ ?_; (· first | (refine decide_eq_true ?_; assumption) | (refine decide_eq_true ?_; omega))) | refine skip_then ?_ | refine AW_seq ?_ | refine AW_ret ?_ | refine ret_done ?_ | refine ret_then ?_ | refine AW_block ?_ | refine ret_block ?_ | refine ret_round ?_)
                exact outs_b (decide_eq_false (hbad fun h => (h.2 _ (getD_memL hcj)).elim h46 h35)).symm
          · obtain rfl : j = row.length := by omega
            rw [List.take_length] at hjok
            repeat (first | (refine step_ops ?_; (first | (refine m_mov (by conv => lhs; whnf) ?_) | (refine m_lss rfl rfl ?_) | (refine m_add rfl rfl ?_ ?_ ?_; (· omega); (· omega)) | (refine m_slen rfl ?_))) | refine end_ops ?_ | refine seq_ops ?_ | refine AW_ops ?_ | (refine cond_f rfl ?_ ?_; (· (refine decide_eq_false ?_; omega))) | refine AW_seq ?_ | refine norm_then ?_ | refine exit_then ?_ | refine norm_block ?_ | refine exit_round ?_ | refine AW_exit ?_ | refine exit_block ?_)
            refine next_round (k + 1) ⟨by omega, hsn ⟨by omega, hjok⟩⟩ (weak_st ?_ ?_ rfl rfl) ?_
            · (repeat' (first | exact trivial | refine And.intro ?_ ?_)) <;> (first | rfl | skip)
            · trivial
            · omega
        · repeat (first | (refine step_ops ?_; (first | (refine m_lss rfl rfl ?_) | (refine m_idx1_ro rfl rfl ?_ ?_; (· omega)))) | refine end_ops ?_ | refine seq_ops ?_ | (refine cond_t rfl ?_ ?_; (· (refine decide_eq_true ?_; omega))) | refine skip_then ?_ | refine AW_seq ?_ | refine AW_block ?_)
          refine step_ops ?_
          refine m_ld_rp rfl hat ?_
          repeat (first | (refine step_ops ?_; (first | (refine m_mov (by conv => lhs; whnf) ?_) | (refine m_neq rfl rfl ?_) | (refine m_slen rfl ?_) | (refine m_len_ro rfl ?_))) | refine end_ops ?_ | refine seq_ops ?_ | (refine cond_t rfl ?_ ?_; (· (refine decide_eq_true ?_; omega))) | refine AW_seq ?_ | refine AW_ret ?_ | refine ret_done ?_ | refine ret_then ?_ | refine ret_block ?_ | refine ret_round ?_)
          exact outs_b (decide_eq_false (hbad fun h => hlen (by rw [h.1]; exact hsd))).symm
      · have hg : GoodBd B := (good_iff hc7).2 fun i hi => hok i (by omega)
        repeat (first | (refine step_ops ?_; (first | (refine m_mov (by conv => lhs; whnf) ?_) | (refine m_lss rfl rfl ?_))) | refine end_ops ?_ | refine seq_ops ?_ | (refine cond_f rfl ?_ ?_; (· (refine decide_eq_false ?_; omega))) | refine AW_seq ?_ | refine AW_ret ?_ | refine ret_done ?_ | refine norm_then ?_ | refine exit_then ?_ | refine exit_round ?_ | refine AW_exit ?_ | refine exit_block ?_)
        exact outs_b (decide_eq_true hg).symm
    · have hng : ¬ GoodBd B := fun h => hc7 h.1
      repeat (first | (refine step_ops ?_; (first | (refine m_mov (by conv => lhs; whnf) ?_) | (refine m_gtr rfl rfl ?_) | (refine m_slen rfl ?_))) | refine end_ops ?_ | refine seq_ops ?_ | (refine cond_f rfl ?_ ?_; (· (refine decide_eq_false ?_; omega))) | refine skip_then ?_ | refine AW_seq ?_)
      (refine step_ops ?_); (apply m_call (l1Split_spec B hB)); (· repeat (first | exact lends_nil | (refine lends_cons ?_ ?_; (· exact lend_v))))
      repeat (first | (refine step_ops ?_; (first | (refine m_mov (by conv => lhs; whnf) ?_) | (refine m_len_ro rfl ?_))) | refine end_ops ?_ | refine seq_ops ?_ | refine AW_seq ?_)
      (refine step_ops ?_); (apply m_call (l1In_spec _ _ _)); (· repeat (first | exact lends_nil | (refine lends_cons ?_ ?_; (· exact lend_v))))
      repeat (first | (refine step_ops ?_; (first | (refine m_mov (by conv => lhs; whnf) ?_) | (refine m_not rfl ?_))) | refine end_ops ?_ | refine seq_ops ?_ | (refine cond_t rfl ?_ ?_; (· (refine nt ?_; omega))) | refine AW_ret ?_ | refine ret_done ?_ | refine ret_then ?_)
      exact outs_b (decide_eq_false hng).symm
  · have hng : ¬ GoodBd B := fun h => h72 (by have := good_len72 h; omega)
    repeat (first | (refine step_ops ?_; (first | (refine m_mov (by conv => lhs; whnf) ?_) | (refine m_gtr rfl rfl ?_) | (refine m_slen rfl ?_))) | refine end_ops ?_ | refine seq_ops ?_ | (refine cond_t rfl ?_ ?_; (· (refine decide_eq_true ?_; omega))) | refine AW_seq ?_ | refine AW_ret ?_ | refine ret_done ?_ | refine ret_then ?_)
    exact outs_b (decide_eq_false hng).symm
theorem bdAt_spec (B : List UInt8) (h : GoodBd B) (i j : Nat) (hi : i < sdB B) (hj : j < sdB B) : Sp Tryd.prog 52 [str B, .i i, .i j] (.b (fbB B i j)) := by
  have h71 := good_len72 h
  have hsd := good_sd h
  have hlen := good_len h
  have hat := good_at h hi hj
  have hm1 : (i : Int) * ((sdB B : Int) + 1) = ((i * (sdB B + 1) : Nat) : Int) := by push_cast; rfl
  have hm2 : i * (sdB B + 1) ≤ 7 * 9 := Nat.mul_le_mul (by omega) (by omega)
  have hm3 : (i + 1) * (sdB B + 1) ≤ sdB B * (sdB B + 1) := Nat.mul_le_mul_right _ hi
  rw [Nat.add_mul] at hm3
  refine spec_of Tryd.func52 rfl cc52 rfl ?_
  unfold ac52
  repeat (first | (refine step_ops ?_; (refine m_mov (by conv => lhs; whnf) ?_)) | refine end_ops ?_ | refine seq_ops ?_)
  (refine step_ops ?_); (apply m_call (bdSide_spec B (by omega))); (· repeat (first | exact lends_nil | (refine lends_cons ?_ ?_; (· exact lend_v))))
  repeat (first | (refine step_ops ?_; (first | (refine m_mov (by conv => lhs; whnf) ?_) | (refine m_eqk rfl rfl ?_) | (refine m_add rfl rfl ?_ ?_ ?_; (· omega); (· omega)) | (refine m_mul rfl rfl ?_ ?_ ?_; (· first | omega | (simp; done)); (· first | omega | (simp; done))) | (refine m_six' rfl rfl ?_ ?_; (· first | omega | (simp; omega))))) | refine end_ops ?_ | refine AW_ret ?_ | refine ret_done ?_)
  exact outs_b (by rw [hat]; cases fbB B i j <;> rfl)
end Go.Proofs.YtngfogpbljconaaDoor
namespace Go.Proofs.YtngfogpbljconaaDoor
variable [Go.Am.CodeBlk]
open Go.Am Go.WideMaps
theorem place_law : KeyLaw Tryd.prog 54 := deep_law (m := 2) (by omega) (by kernel_rfl) (by kernel_rfl) (by kernel_rfl)
theorem place_type : Tryd.prog.keyType 54 = true := by kernel_rfl
theorem place_cells : Tryd.prog.cellsOf 54 = 2 := by kernel_rfl
theorem types_size : ∃ m, Tryd.prog.types.size = m + 1 := ⟨Tryd.prog.types.size - 1, by kernel_rfl⟩
theorem int_under : Tryd.prog.underlying 3 = some (.int .i64) := by kernel_rfl
theorem int_cells : Tryd.prog.cellsOf 3 = 1 := by kernel_rfl
theorem lits_int {a : Int} (ha : (Lit.int .i64 a).wf = true) (m : Nat) : Tryd.prog.keyLits (m + 1) 3 [.int .i64 a] = some [.int .i64 a] := by
  unfold Program.keyLits
  simp [ha]
theorem key_place {a b : Int} (ha : (Lit.int .i64 a).wf = true) (hb : (Lit.int .i64 b).wf = true) : ∃ l, keyOf Tryd.prog 54 (keyP a b) = some l := by
  obtain ⟨m, hm⟩ := types_size
  unfold keyOf keyP
  rw [Tryd.underlying54]
  simp only [place_type, Bool.true_and]
  rw [if_pos (by simp [Value.formed, Tryd.underlying54, place_cells]), hm]
  unfold Program.keyLits
  simp [Tryd.underlying54, Value.cells, place_cells, int_cells, lits_int ha, lits_int hb]
theorem wf_int {a : Int} (h1 : -9223372036854775808 ≤ a) (h2 : a ≤ 9223372036854775807) : (Lit.int .i64 a).wf = true := by
  simp [Lit.wf, IntKind.min, IntKind.max, IntKind.signed, IntKind.bits, h1, h2]
theorem keys_place {l : List (Nat × Nat)} (h : ∀ p ∈ l, p.1 < 1000 ∧ p.2 < 1000) : ∀ e ∈ (mkEs l).toList, ∃ q, keyOf Tryd.prog 54 e.key = some q := by
  intro e he
  obtain ⟨p, hp, hk, _⟩ := mem_mkEs he
  have := h p hp
  rw [hk]
  exact key_place (wf_int (by omega) (by omega)) (wf_int (by omega) (by omega))
/-- A place is asked for in a map of places. -/
theorem m_place {own : Bool} {d : Option Nat} {s : AS} {K : AS → Prop} {x i : Opd} {l : List (Nat × Nat)} {a b : Int} (h : ∀ p ∈ l, p.1 < 1000 ∧ p.2 < 1000) (hm : MapAt s (s.ev x) (mkEs l) l.length) (hi : exV (s.ev i) = some (keyP a b))
    (ha : -9223372036854775808 ≤ a ∧ a ≤ 9223372036854775807) (hb : -9223372036854775808 ≤ b ∧ b ≤ 9223372036854775807) (k : K (s.put d (.b (hasP l a b)))) : aop1 Tryd.prog own ⟨d, .mgetk 54 (.bool false) false x i, none⟩ s K := by
  refine m_mgetk place_law hm hi (key_place (wf_int ha.1 ha.2) (wf_int hb.1 hb.2)) (keys_place h) ?_ ?_ k
  · intro e he hk
    obtain ⟨p, hp, h1, h2⟩ := mem_mkEs he
    rw [h1] at hk
    obtain ⟨e1, e2⟩ := keyP_inj hk
    have : hasP l a b = true := List.any_eq_true.2 ⟨p, hp, by simp [e1, e2]⟩
    rw [h2, this]
    rfl
  · intro hno
    have : hasP l a b = false := by
      rw [Bool.eq_false_iff]
      intro ht
      obtain ⟨p, hp, hpe⟩ := List.any_eq_true.1 ht
      simp only [Bool.and_eq_true, decide_eq_true_eq] at hpe
      obtain ⟨e, he, hk⟩ := has_mkEs hp
      exact hno e he (by rw [hk, hpe.1, hpe.2])
    rw [this]
    rfl
/-- A place that is not in a map is put into it. -/
theorem m_putPlace {own : Bool} {s : AS} {K : AS → Prop} {x i y : Opd} {r : Nat} {l : List (Nat × Nat)} {a b : Nat} (h : ∀ p ∈ l, p.1 < 1000 ∧ p.2 < 1000) (hx : s.ev x = .mp r) (hr : s.hp r = some (true, [.ob (.map (mkEs l) l.length)])) (hi : exV (s.ev i) = some (keyP a b)) (hy : s.ev y = .v (.bool true))
    (ha : a < 1000) (hb : b < 1000) (hn : (a, b) ∉ l) (k : K (s.mem r (true, [.ob (.map (mkEs (l ++ [(a, b)])) (l ++ [(a, b)]).length)]))) : aop1 Tryd.prog own ⟨none, .mputk 54 x i y, none⟩ s K := by
  refine m_mputk place_law hx hr hi hy (key_place (wf_int (by omega) (by omega)) (wf_int (by omega) (by omega))) (keys_place h) ?_ ?_
  · intro e he hk
    obtain ⟨p, hp, h1, _⟩ := mem_mkEs he
    rw [h1] at hk
    obtain ⟨e1, e2⟩ := keyP_inj hk
    have : p = (a, b) := Prod.ext (by omega) (by omega)
    exact hn (this ▸ hp)
  · rw [show l.length + 1 = (l ++ [(a, b)]).length by simp]
    rw [← mkEs_push l (a, b)] at k
    exact k
end Go.Proofs.YtngfogpbljconaaDoor
namespace Go.Proofs.YtngfogpbljconaaDoor
variable [Go.Am.CodeBlk]
open Go.Am
attribute [local irreducible] AW Outs Weak Lends Lend Sp aops atree aop1 Then Round InBlock Done
theorem isSide_spec (n : Int) : Sp Tryd.prog 62 [.i n] (.b (decide (1 ≤ n ∧ n ≤ 8))) := by
  refine spec_of Tryd.func62 rfl cc62 rfl ?_
  unfold ac62
  by_cases h1 : 1 ≤ n
  · by_cases h2 : n ≤ 8
    · repeat (first | (refine step_ops ?_; ((try (refine g_yes rfl ?_ ?_; (· (refine decide_eq_true ?_; assumption)))); (first | (refine m_mov (by conv => lhs; whnf) ?_) | (refine m_leq rfl rfl ?_) | (refine m_geq rfl rfl ?_) | (refine m_pick_t rfl ?_ (by conv => lhs; whnf) ?_; (· (refine decide_eq_true ?_; assumption)))))) | refine end_ops ?_ | refine seq_ops ?_ | refine AW_ret ?_ | refine ret_done ?_)
      exact outs_b (by simp [h1, h2])
    · repeat (first | (refine step_ops ?_; ((try (refine g_yes rfl ?_ ?_; (· (refine decide_eq_true ?_; assumption)))); (first | (refine m_mov (by conv => lhs; whnf) ?_) | (refine m_leq rfl rfl ?_) | (refine m_geq rfl rfl ?_) | (refine m_pick_t rfl ?_ (by conv => lhs; whnf) ?_; (· (refine decide_eq_true ?_; assumption)))))) | refine end_ops ?_ | refine seq_ops ?_ | refine AW_ret ?_ | refine ret_done ?_)
      exact outs_b (by simp [h2])
  · repeat (first | (refine step_ops ?_; (first | (first | (refine m_mov (by conv => lhs; whnf) ?_) | (refine m_geq rfl rfl ?_) | (refine m_pick_f rfl ?_ (by conv => lhs; whnf) ?_; (· (refine decide_eq_false ?_; assumption)))) | (refine g_noT rfl ?_ ?_; (· (refine decide_eq_false ?_; assumption))))) | refine end_ops ?_ | refine seq_ops ?_ | refine AW_ret ?_ | refine ret_done ?_)
    exact outs_b (by simp [h1])
/-- The places of a board. -/
def plB (B : List UInt8) : List (Nat × Nat) := posP (fbB B) (sdB B) (sdB B)
/-- A board that was read. -/
def bdV (fr : Bool) (B : List UInt8) : AV := if GoodBd B then .agg [.i (sdB B : Nat), .rmp fr (mkEs (plB B)) (plB B).length] else .agg [.i 0, .v (.map none)]
def bdR (fr : Bool) (B : List UInt8) : AV := .tup [bdV fr B, .b (decide (GoodBd B))]
theorem pos_lt {fb : Nat → Nat → Bool} {n k i j : Nat} (hn : n ≤ 8) (hk : k ≤ n) (hi : i < 8) (hj : j ≤ n) : ∀ p ∈ posP fb n k ++ rowP fb i j, p.1 < 1000 ∧ p.2 < 1000 := by
  intro p hp
  rcases List.mem_append.1 hp with hp | hp
  · have := mem_posP.1 hp; omega
  · have := mem_rowP.1 hp; omega
set_option maxRecDepth 20000 in
theorem readBoard_spec (B : List UInt8) (hB : B.length ≤ 1048576) : Sp Tryd.prog 40 [str B] (bdR true B) := by
  have hl := splitB_len B
  have hnl := splitNB_len 8 B
  refine specG_of Tryd.func40 rfl cc40 (by set_option maxRecDepth 100000 in rfl) ?_
  unfold ac40
  by_cases hc7 : B.count 47 ≤ 7
  · have hsp : splitNB 8 B = splitB B := splitNB_all 8 B (by omega)
    have hspec := splitN_spec B hB
    rw [hsp] at hspec
    have hsd : sdB B = (splitB B).length := hl.symm
    have hsd8 : sdB B ≤ 8 := by unfold sdB; omega
    repeat (first | (refine step_ops ?_; (first | (refine m_mov (by conv => lhs; whnf) ?_) | (refine m_alloc ?_))) | refine end_ops ?_ | refine seq_ops ?_)
    (refine step_ops ?_); (apply m_call (hspec)); (· repeat (first | exact lends_nil | (refine lends_cons ?_ ?_; (· exact lend_v))))
    repeat (first | (refine step_ops ?_; (first | (refine m_mov (by conv => lhs; whnf) ?_) | (refine m_len_ro rfl ?_))) | refine end_ops ?_ | refine seq_ops ?_ | refine AW_seq ?_)
    (refine step_ops ?_); (apply m_call (isSide_spec _)); (· repeat (first | exact lends_nil | (refine lends_cons ?_ ?_; (· exact lend_v))))
    repeat (first | (refine step_ops ?_; (first | (refine m_mov (by conv => lhs; whnf) ?_) | (refine m_not rfl ?_) | (refine m_len_ro rfl ?_) | (refine m_mmk ?_) | (refine m_alloc ?_) | (refine m_bld_2 (by conv => lhs; whnf) (by conv => lhs; whnf) (by decide)  (by decide) (by rfl) (by rfl) ?_))) | refine end_ops ?_ | refine seq_ops ?_ | (refine cond_f rfl ?_ ?_; (· (refine nf ?_; omega))) | refine skip_then ?_)
    refine step_opsW (weak_deep (r := 5) rfl (by simp) rfl) ?_
    refine m_stall (l := [.i (splitB B).length, .mp 18]) rfl rfl rfl rfl rfl rfl ?_
    repeat (first | (refine step_ops ?_; (first | (refine m_mov (by conv => lhs; whnf) ?_) | (refine m_len_ro rfl ?_))) | refine end_ops ?_ | refine seq_ops ?_ | refine AW_seq ?_ | refine AW_block ?_)
    refine AW_loop (α := Nat) (fun k => k ≤ sdB B ∧ ∀ i < k, OkRow (sdB B) ((splitB B).getD i []))
      (fun k => st [(2, .pt 2 0), (5, .pt 5 0), (20, .ro true 1 (strs (splitB B)) (splitB B).length), (21, .i (splitB B).length), (22, .i k)]
        [(2, (true, [.i 0, .v (.map none)])), (5, (false, [.i (splitB B).length, .mp 18])), (18, (true, [.ob (.map (mkEs (posP (fbB B) (sdB B) k)) (posP (fbB B) (sdB B) k).length)]))]) (fun k => sdB B - k) 0 ⟨Nat.zero_le _, fun i hi => by omega⟩ (weak_st ?_ ?_ rfl rfl) ?_
    · (repeat' (first | exact trivial | refine And.intro ?_ ?_)) <;> (first | rfl | skip)
    · (repeat' (first | exact trivial | refine And.intro ?_ ?_)) <;> (first | rfl | skip)
    rintro k ⟨hk, hok⟩
    by_cases hc : k < (splitB B).length
    · have hat := strs_at hc
      obtain ⟨row, hrow⟩ : ∃ row, row = (splitB B).getD k [] := ⟨_, rfl⟩
      rw [← hrow] at hat
      have hsn : OkRow (sdB B) row → ∀ i < k + 1, OkRow (sdB B) ((splitB B).getD i []) := fun h => all_snoc hok (by rw [← hrow]; exact h)
      have hbad : ¬ OkRow (sdB B) row → ¬ GoodBd B := fun h hg => h (by rw [hrow]; exact (good_iff hc7).1 hg k (by omega))
      have hfb : ∀ j, fbB B k j = decide (row.getD j 0 = 35) := fun j => by rw [hrow]; rfl
      have hout : ∀ {s : AS}, ¬ GoodBd B → s.tm 2 = .pt 2 0 → s.hp 2 = some (true, [.i 0, .v (.map none)]) → s.tm 3 = .b false → DoneG [.c 2 2, .t 3] (bdR true B) .ret s := by
        intro s hng h1 h2 h3
        refine ret_doneg2 h1 h2 rfl ?_
        unfold bdR bdV
        rw [h3, if_neg hng, decide_eq_false hng]
        exact outs_tup2 (outs_agg rfl) (outs_b rfl)
      by_cases hlen : row.length = (splitB B).length
      · repeat (first | (refine step_ops ?_; (first | (refine m_mov (by conv => lhs; whnf) ?_) | (refine m_lss rfl rfl ?_) | (refine m_idx1_ro rfl rfl ?_ ?_; (· omega)))) | refine end_ops ?_ | refine seq_ops ?_ | (refine cond_t rfl ?_ ?_; (· (refine decide_eq_true ?_; omega))) | refine skip_then ?_ | refine AW_seq ?_ | refine AW_block ?_)
        refine step_ops ?_
        refine m_ld_rp rfl hat ?_
        repeat (first | (refine step_ops ?_; (first | (refine m_mov (by conv => lhs; whnf) ?_) | (refine m_neq rfl rfl ?_) | (refine m_slen rfl ?_) | (apply m_ld_pt; (· rfl); (· rfl); (· rfl)) | (refine m_fa rfl ?_))) | refine end_ops ?_ | refine seq_ops ?_ | (refine cond_f rfl ?_ ?_; (· (refine decide_eq_false ?_; omega))) | refine skip_then ?_ | refine AW_seq ?_ | refine AW_block ?_)
        refine AW_loop (α := Nat) (fun j => j ≤ row.length ∧ ∀ c ∈ row.take j, c = 46 ∨ c = 35)
          (fun j => st [(2, .pt 2 0), (5, .pt 5 0), (6, .i k), (7, str row), (20, .ro true 1 (strs (splitB B)) (splitB B).length), (21, .i (splitB B).length), (22, .i k), (34, .i row.length), (35, .i j)]
            [(2, (true, [.i 0, .v (.map none)])), (5, (false, [.i (splitB B).length, .mp 18])), (18, (true, [.ob (.map (mkEs (posP (fbB B) (sdB B) k ++ rowP (fbB B) k j)) (posP (fbB B) (sdB B) k ++ rowP (fbB B) k j).length)]))]) (fun j => row.length - j) 0 ⟨Nat.zero_le _, fun c hc => by simp at hc⟩ (weak_st ?_ ?_ rfl rfl) ?_
        · (repeat' (first | exact trivial | refine And.intro ?_ ?_)) <;> (first | rfl | skip)
        · rw [show posP (fbB B) (sdB B) k ++ rowP (fbB B) k 0 = posP (fbB B) (sdB B) k by simp [rowP]]
          (repeat' (first | exact trivial | refine And.intro ?_ ?_)) <;> (first | rfl | skip)
        rintro j ⟨hj, hjok⟩
        by_cases hcj : j < row.length
        · have hts := take_snoc row j 0 hcj
          have hrs := rowP_snoc (fbB B) k j
          have hlt := pos_lt (fb := fbB B) (n := sdB B) (k := k) (i := k) (j := j) hsd8 (by omega) (by omega) (by omega)
          by_cases h46 : row.getD j 0 = 46
          · have h46' : ((row.getD j 0).toNat : Int) = 46 := by rw [h46]; rfl
            have hfj : fbB B k j = false := by rw [hfb, h46]; rfl
            rw [hfj] at hrs
            repeat (first | (refine step_ops ?_; (first | (refine m_mov (by conv => lhs; whnf) ?_) | (refine m_lss rfl rfl ?_) | (refine m_eqk rfl rfl ?_) | (refine m_add rfl rfl ?_ ?_ ?_; (· omega); (· omega)) | (refine m_six' rfl rfl ?_ ?_; (· first | omega | (simp; omega))))) | refine end_ops ?_ | refine seq_ops ?_ | refine AW_ops ?_ | (refine cond_t rfl ?_ ?_; (· first | (refine decide_eq_true ?_; assumption) | (refine decide_eq_true ?_; omega))) | refine skip_then ?_ | refine AW_seq ?_ | refine norm_then ?_ | refine AW_block ?_ | refine norm_block ?_ | refine AW_skip ?_)
            refine next_round (j + 1) ⟨hcj, fun c hc => ?_⟩ (weak_st ?_ ?_ rfl rfl) ?_
            · rw [hts] at hc
              rcases List.mem_append.1 hc with hc | hc
              · exact hjok c hc
              · rw [List.mem_singleton.1 hc]; exact .inl h46
            · (repeat' (first | exact trivial | refine And.intro ?_ ?_)) <;> (first | rfl | skip)
            · rw [hrs]
              simp only [Bool.false_eq_true, if_false, List.append_nil]
              (repeat' (first | exact trivial | refine And.intro ?_ ?_)) <;> (first | rfl | skip)
            · omega
          · have h46' : ¬ ((row.getD j 0).toNat : Int) = 46 := fun e => h46 (u8_eq (n := 46) (by omega) 46 rfl)
            by_cases h35 : row.getD j 0 = 35
            · have h35' : ((row.getD j 0).toNat : Int) = 35 := by rw [h35]; rfl
              have hfj : fbB B k j = true := by rw [hfb, h35]; rfl
              rw [hfj, if_pos rfl] at hrs
              repeat (first | (refine step_ops ?_; (first | (refine m_mov (by conv => lhs; whnf) ?_) | (refine m_lss rfl rfl ?_) | (refine m_eqk rfl rfl ?_) | (refine m_six' rfl rfl ?_ ?_; (· first | omega | (simp; omega))) | (apply m_ld_pt; (· rfl); (· rfl); (· rfl)) | (refine m_fa rfl ?_) | (refine m_bld_2 (by conv => lhs; whnf) (by conv => lhs; whnf) (by decide)  (by decide) (by rfl) (by rfl) ?_))) | refine end_ops ?_ | refine seq_ops ?_ | refine AW_ops ?_ | (refine cond_t rfl ?_ ?_; (· first | (refine decide_eq_true ?_; assumption) | (refine decide_eq_true ?_; omega))) | (refine cond_f rfl ?_ ?_; (· (refine decide_eq_false ?_; assumption))) | refine skip_then ?_ | refine AW_seq ?_ | refine AW_block ?_)
              refine step_ops ?_
              refine m_putPlace (l := posP (fbB B) (sdB B) k ++ rowP (fbB B) k j) (a := k) (b := j) hlt rfl rfl rfl rfl (by omega) (by omega) ?_ ?_
              · intro hm
                rcases List.mem_append.1 hm with hm | hm
                · have := mem_posP.1 hm; simp at this
                · have := mem_rowP.1 hm; simp at this
              repeat (first | (refine step_ops ?_; (first | (refine m_mov (by conv => lhs; whnf) ?_) | (refine m_add rfl rfl ?_ ?_ ?_; (· omega); (· omega)))) | refine end_ops ?_ | refine AW_ops ?_ | refine norm_then ?_ | refine norm_block ?_)
              refine next_round (j + 1) ⟨hcj, fun c hc => ?_⟩ (weak_st ?_ ?_ rfl rfl) ?_
              · rw [hts] at hc
                rcases List.mem_append.1 hc with hc | hc
                · exact hjok c hc
                · rw [List.mem_singleton.1 hc]; exact .inr h35
              · (repeat' (first | exact trivial | refine And.intro ?_ ?_)) <;> (first | rfl | skip)
              · rw [hrs, ← List.append_assoc]
                (repeat' (first | exact trivial | refine And.intro ?_ ?_)) <;> (first | rfl | skip)
              · omega
            · have h35' : ¬ ((row.getD j 0).toNat : Int) = 35 := fun e => h35 (u8_eq (n := 35) (by omega) 35 rfl)
              repeat (first | (refine step_ops ?_; (first | (refine m_mov (by conv => lhs; whnf) ?_) | (refine m_lss rfl rfl ?_) | (refine m_eqk rfl rfl ?_) | (refine m_six' rfl rfl ?_ ?_; (· first | omega | (simp; omega))) | (refine m_bld rfl ?_) | (refine m_stall rfl rfl rfl ?_ ?_ ?_ ?_; (· first | rfl | (simp [*]; done)); (· first | rfl | (simp [*]; done)); (· first | rfl | (simp [cellOk, Value.oneCell']; done))))) | refine end_ops ?_ | refine seq_ops ?_ | (refine cond_t rfl ?_ ?_; (· (refine decide_eq_true ?_; omega))) | (refine cond_f rfl ?_ ?_; (· (refine decide_eq_false ?_; assumption))) | refine skip_then ?_ | refine AW_seq ?_ | refine AW_ret ?_ | refine ret_then ?_ | refine AW_block ?_ | refine ret_block ?_ | refine ret_round ?_)
              exact hout (hbad fun h => (h.2 _ (getD_memL hcj)).elim h46 h35) rfl rfl rfl
        · obtain rfl : j = row.length := by omega
          rw [List.take_length] at hjok
          repeat (first | (refine step_ops ?_; (first | (refine m_mov (by conv => lhs; whnf) ?_) | (refine m_lss rfl rfl ?_) | (refine m_add rfl rfl ?_ ?_ ?_; (· omega); (· omega)))) | refine end_ops ?_ | refine seq_ops ?_ | refine AW_ops ?_ | (refine cond_f rfl ?_ ?_; (· (refine decide_eq_false ?_; omega))) | refine AW_seq ?_ | refine norm_then ?_ | refine exit_then ?_ | refine norm_block ?_ | refine exit_round ?_ | refine AW_exit ?_ | refine exit_block ?_)
          refine next_round (k + 1) ⟨by omega, hsn ⟨by omega, hjok⟩⟩ (weak_st ?_ ?_ rfl rfl) ?_
          · (repeat' (first | exact trivial | refine And.intro ?_ ?_)) <;> (first | rfl | skip)
          · rw [show posP (fbB B) (sdB B) (k + 1) = posP (fbB B) (sdB B) k ++ rowP (fbB B) k row.length by rw [hlen, ← hsd]; rfl]
            (repeat' (first | exact trivial | refine And.intro ?_ ?_)) <;> (first | rfl | skip)
          · omega
      · repeat (first | (refine step_ops ?_; (first | (refine m_mov (by conv => lhs; whnf) ?_) | (refine m_lss rfl rfl ?_) | (refine m_idx1_ro rfl rfl ?_ ?_; (· omega)))) | refine end_ops ?_ | refine seq_ops ?_ | (refine cond_t rfl ?_ ?_; (· (refine decide_eq_true ?_; omega))) | refine skip_then ?_ | refine AW_seq ?_ | refine AW_block ?_)
        refine step_ops ?_
        refine m_ld_rp rfl hat ?_
        repeat (first | (refine step_ops ?_; (first | (refine m_mov (by conv => lhs; whnf) ?_) | (refine m_neq rfl rfl ?_) | (refine m_slen rfl ?_) | (apply m_ld_pt; (· rfl); (· rfl); (· rfl)) | (refine m_fa rfl ?_) | (refine m_bld rfl ?_) | (refine m_stall rfl rfl rfl ?_ ?_ ?_ ?_; (· first | rfl | (simp [*]; done)); (· first | rfl | (simp [*]; done)); (· first | rfl | (simp [cellOk, Value.oneCell']; done))))) | refine end_ops ?_ | refine seq_ops ?_ | (refine cond_t rfl ?_ ?_; (· (refine decide_eq_true ?_; omega))) | refine AW_seq ?_ | refine AW_ret ?_ | refine ret_then ?_ | refine ret_block ?_ | refine ret_round ?_)
        exact hout (hbad fun h => hlen (by rw [h.1]; exact hsd)) rfl rfl rfl
    · have hg : GoodBd B := (good_iff hc7).2 fun i hi => hok i (by omega)
      obtain rfl : k = sdB B := by omega
      repeat (first | (refine step_ops ?_; (first | (refine m_lss rfl rfl ?_) | (refine m_ldall rfl rfl ?_ ?_; (· first | rfl | (simp; done) | (simp [*]; done))))) | refine end_ops ?_ | refine seq_ops ?_ | (refine cond_f rfl ?_ ?_; (· (refine decide_eq_false ?_; omega))) | refine AW_seq ?_ | refine norm_then ?_ | refine exit_then ?_ | refine exit_round ?_ | refine AW_exit ?_ | refine exit_block ?_)
      refine step_opsW (weak_deep (r := 2) rfl (by simp) rfl) ?_
      refine m_stall (l := [.i (splitB B).length, .mp 18]) rfl rfl rfl rfl rfl rfl ?_
      repeat (first | (refine step_ops ?_; (refine m_mov (by conv => lhs; whnf) ?_)) | refine end_ops ?_ | refine AW_ret ?_)
      refine ret_doneg2 rfl rfl rfl ?_
      unfold bdR bdV
      rw [if_pos hg, decide_eq_true hg]
      exact outs_tup2 (outs_agg2 (outs_i (by rw [hsd])) (outs_mp (by decide) rfl)) (outs_b rfl)
  · have hng : ¬ GoodBd B := fun h => hc7 h.1
    repeat (first | (refine step_ops ?_; (first | (refine m_mov (by conv => lhs; whnf) ?_) | (refine m_alloc ?_))) | refine end_ops ?_ | refine seq_ops ?_)
    (refine step_ops ?_); (apply m_call (splitN_spec B hB)); (· repeat (first | exact lends_nil | (refine lends_cons ?_ ?_; (· exact lend_v))))
    repeat (first | (refine step_ops ?_; (first | (refine m_mov (by conv => lhs; whnf) ?_) | (refine m_len_ro rfl ?_))) | refine end_ops ?_ | refine seq_ops ?_ | refine AW_seq ?_)
    (refine step_ops ?_); (apply m_call (isSide_spec _)); (· repeat (first | exact lends_nil | (refine lends_cons ?_ ?_; (· exact lend_v))))
    repeat (first | (refine step_ops ?_; (first | (refine m_mov (by conv => lhs; whnf) ?_) | (refine m_not rfl ?_) | (refine m_bld rfl ?_) | (refine m_stall rfl rfl rfl ?_ ?_ ?_ ?_; (· first | rfl | (simp [*]; done)); (· first | rfl | (simp [*]; done)); (· first | rfl | (simp [cellOk, Value.oneCell']; done))))) | refine end_ops ?_ | refine seq_ops ?_ | (refine cond_t rfl ?_ ?_; (· (refine nt ?_; omega))) | refine AW_ret ?_ | refine ret_then ?_)
    refine ret_doneg2 rfl rfl rfl ?_
    unfold bdR bdV
    rw [if_neg hng, decide_eq_false hng]
    exact outs_tup2 (outs_agg rfl) (outs_b rfl)
theorem implIsBoard_spec (B : List UInt8) (hB : B.length ≤ 1048576) : Sp Tryd.prog 15 [str B] (.b (decide (GoodBd B))) := by
  have hr := readBoard_spec B hB
  unfold bdR bdV at hr
  refine spec_of Tryd.func15 rfl cc15 rfl ?_
  unfold ac15
  by_cases h : GoodBd B
  · rw [if_pos h] at hr
    repeat (first | (refine step_ops ?_; (refine m_mov (by conv => lhs; whnf) ?_)) | refine end_ops ?_ | refine seq_ops ?_)
    (refine step_ops ?_); (apply m_call (hr)); (· repeat (first | exact lends_nil | (refine lends_cons ?_ ?_; (· exact lend_v))))
    repeat (first | (refine step_ops ?_; (first | (refine m_mov (by conv => lhs; whnf) ?_) | (refine m_ext rfl rfl ?_) | (refine m_alloc ?_) | (refine m_stall rfl rfl rfl ?_ ?_ ?_ ?_; (· first | rfl | (simp [*]; done)); (· first | rfl | (simp [*]; done)); (· first | rfl | (simp [cellOk, Value.oneCell']; done))))) | refine end_ops ?_ | refine seq_ops ?_ | refine AW_ret ?_ | refine ret_done ?_)
    exact outs_b rfl
  · rw [if_neg h] at hr
    repeat (first | (refine step_ops ?_; (refine m_mov (by conv => lhs; whnf) ?_)) | refine end_ops ?_ | refine seq_ops ?_)
    (refine step_ops ?_); (apply m_call (hr)); (· repeat (first | exact lends_nil | (refine lends_cons ?_ ?_; (· exact lend_v))))
    repeat (first | (refine step_ops ?_; (first | (refine m_mov (by conv => lhs; whnf) ?_) | (refine m_ext rfl rfl ?_) | (refine m_alloc ?_) | (refine m_stall rfl rfl rfl ?_ ?_ ?_ ?_; (· first | rfl | (simp [*]; done)); (· first | rfl | (simp [*]; done)); (· first | rfl | (simp [cellOk, Value.oneCell']; done))))) | refine end_ops ?_ | refine seq_ops ?_ | refine AW_ret ?_ | refine ret_done ?_)
    exact outs_b rfl
theorem specIsBoard_spec (B : List UInt8) (hB : B.length ≤ 1048576) : Sp Tryd.prog 16 [str B] (.b (decide (GoodBd B))) := by
  refine spec_of Tryd.func16 rfl cc16 rfl ?_
  unfold ac16
  repeat (first | (refine step_ops ?_; (refine m_mov (by conv => lhs; whnf) ?_)) | refine end_ops ?_ | refine seq_ops ?_)
  (refine step_ops ?_); (apply m_call (bdGood_spec B hB)); (· repeat (first | exact lends_nil | (refine lends_cons ?_ ?_; (· exact lend_v))))
  repeat (first | (refine step_ops ?_; (refine m_mov (by conv => lhs; whnf) ?_)) | refine end_ops ?_ | refine AW_ret ?_ | refine ret_done ?_)
  exact outs_b rfl
end Go.Proofs.YtngfogpbljconaaDoor
namespace Go.Am
variable [Go.Am.CodeBlk]
variable {P : Program} {own : Bool} {s : AS} {K : AS → Prop} {d : Option Nat} {x i y : Opd}
/-- The entries of ways. -/
def wA (w : List RWay) : Array MapEntry := (w.map RWay.ent).toArray
abbrev wObj (w : List RWay) (ck : Nat) : Bool × List AV := (true, [.ob (.map (wA w) ck)])
theorem wA_mem {w : List RWay} {e : MapEntry} : e ∈ (wA w).toList ↔ ∃ p ∈ w, p.ent = e := by simp [wA]
theorem wA_get {w : List RWay} {n : Nat} {e : MapEntry} (h : (wA w).toList[n]? = some e) : ∃ p, w[n]? = some p ∧ p.ent = e := by
  simp only [wA, List.getElem?_map, Option.map_eq_some_iff] at h
  exact h
theorem wA_keys (w : List RWay) : ∀ e ∈ (wA w).toList, ∃ q, e.key = .int .u16 q := fun e he => by
  obtain ⟨p, _, rfl⟩ := wA_mem.1 he
  exact ⟨p.t, rfl⟩
theorem ent_key {p : RWay} {T : Nat} (h : p.ent.key = .int .u16 (T : Nat)) : p.t = T := by
  simp only [RWay.ent, Value.int.injEq, true_and] at h
  exact_mod_cast h
theorem wA_born {w : List RWay} (h : (w.map (·.b)).Nodup) : ((wA w).toList.map (·.born)).Nodup := by
  have : (wA w).toList.map (·.born) = w.map (·.b) := by simp [wA, Function.comp_def, RWay.ent]
  rw [this]; exact h
/-- What a map of ways has at a set. -/
def wv (w : List RWay) (T : Nat) : Nat := ((w.find? fun p => p.t == T).map (·.v)).getD 0
theorem wv_mem {w : List RWay} (hk : (w.map (·.t)).Nodup) {p : RWay} (hp : p ∈ w) : wv w p.t = p.v := by
  unfold wv
  induction w with
  | nil => simp at hp
  | cons q w ih =>
    simp only [List.map_cons, List.nodup_cons] at hk
    by_cases e : q.t = p.t
    · have : q = p := by
        rcases List.mem_cons.1 hp with rfl | hp
        · rfl
        · exact absurd (List.mem_map.2 ⟨p, hp, e.symm⟩) hk.1
      simp [this]
    · rcases List.mem_cons.1 hp with rfl | hp
      · exact absurd rfl e
      · rw [List.find?_cons, show (q.t == p.t) = false by simpa using e]
        exact ih hk.2 hp
theorem wv_none {w : List RWay} {T : Nat} (h : ∀ p ∈ w, p.t ≠ T) : wv w T = 0 := by
  unfold wv
  rw [List.find?_eq_none.2 fun p hp => by simpa using h p hp]
  rfl
/-- A map of ways is asked. -/
theorem m_wget {r n ck T : Nat} {w : List RWay} (hw : WaysOk n ck w) (hx : s.ev x = .mp r) (hr : s.hp r = some (wObj w ck)) (hi : s.ev i = .u T) (k : K (s.put d (.i (wv w T : Nat)))) : aop1 P own ⟨d, .mget .u16 (.int .i64 0) false x i, none⟩ s K := by
  refine m_mget hx hr hi (wA_keys w) (fun e he hk => ?_) fun hno => ?_
  · obtain ⟨p, hp, rfl⟩ := wA_mem.1 he
    have := ent_key hk
    rw [← this, wv_mem hw.keys hp] at k
    exact k
  · rw [wv_none fun p hp e => hno p.ent (wA_mem.2 ⟨p, hp, rfl⟩) (by rw [← e]; rfl)] at k
    exact k
/-- A number more at a set. -/
theorem m_wput {r n ck T m : Nat} {w : List RWay} (hw : WaysOk n ck w) (hT : T < 2 ^ n) (hx : s.ev x = .mp r) (hr : s.hp r = some (wObj w ck)) (hi : s.ev i = .u T) (hy : s.ev y = .i (wv w T + m : Nat))
    (k : ∀ w' ck', WaysOk n ck' w' → (∀ g, wE w' g = wE w g + m * g T) → K (s.mem r (wObj w' ck'))) : aop1 P own ⟨none, .mput .u16 x i y, none⟩ s K := by
  refine m_mput hx hr hi hy (wA_keys w) (fun j e he hk => ?_) fun hno => ?_
  · obtain ⟨p, hp, rfl⟩ := wA_get he
    have ht := ent_key hk
    obtain ⟨h1, h2⟩ := ways_set hw hp m
    have h3 := k _ _ h1 (fun g => by rw [h2 g, ht])
    have h4 : (wA w).modify j (fun e => { e with key := .int .u16 (T : Nat), val := .int .i64 ((wv w T + m : Nat) : Int) }) = wA (w.set j { p with v := p.v + m }) := by
      apply Array.ext'
      simp only [wA, List.map_set]
      rw [Array.toList_modify]
      apply List.ext_getElem?
      intro q
      rw [List.getElem?_modify, List.getElem?_set]
      by_cases e : j = q
      · subst e
        have hlt : j < w.length := (List.getElem?_eq_some_iff.1 hp).1
        simp only [if_true, List.getElem?_map, hp, Option.map_some, List.length_map, hlt]
        rw [← ht, wv_mem hw.keys (List.mem_of_getElem? hp)]
        rfl
      · simp [e]
    rw [h4]
    exact h3
  · have hno' : ∀ p ∈ w, p.t ≠ T := fun p hp e => hno p.ent (wA_mem.2 ⟨p, hp, rfl⟩) (by rw [← e]; rfl)
    obtain ⟨h1, h2⟩ := ways_push hw hT hno' m
    have h3 := k _ _ h1 h2
    have h4 : (wA w).push { key := .int .u16 (T : Nat), val := .int .i64 ((wv w T + m : Nat) : Int), born := ck } = wA (w ++ [⟨T, m, ck⟩]) := by
      rw [wv_none hno', Nat.zero_add]
      simp [wA, RWay.ent]
    rw [h4]
    exact h3
/-- The first entry. -/
theorem ways_one (n : Nat) : WaysOk n 1 [⟨0, 1, 0⟩] := ⟨by simp, by simp, by simp, by intro p hp; simp at hp; subst hp; exact Nat.pos_of_ne_zero (by simp)⟩

/- Places that are left, with their stamps. -/
def plE (p : (Nat × Nat) × Nat) : MapEntry := entP p.1 p.2
def plArr (l : List ((Nat × Nat) × Nat)) : Array MapEntry := (l.map plE).toArray
theorem mkEsL_zip : ∀ (l : List (Nat × Nat)) (c : Nat), mkEsL c l = (l.zipIdx c).map plE
  | [], _ => rfl
  | p :: l, c => by rw [mkEsL, mkEsL_zip l (c + 1)]; rfl
theorem mkEs_pl (l : List (Nat × Nat)) : mkEs l = plArr l.zipIdx := by unfold mkEs plArr; rw [mkEsL_zip]
theorem plArr_mem {l : List ((Nat × Nat) × Nat)} {e : MapEntry} : e ∈ (plArr l).toList ↔ ∃ p ∈ l, plE p = e := by simp [plArr]
end Go.Am
namespace Go.Am
variable [Go.Am.CodeBlk]
/-- The bits of a byte, counted. -/
def popB : ByteArray := ⟨#[0, 1, 1, 2, 1, 2, 2, 3, 1, 2, 2, 3, 2, 3, 3, 4, 1, 2, 2, 3, 2, 3, 3, 4, 2, 3, 3, 4, 3, 4, 4, 5, 1, 2, 2, 3, 2, 3, 3, 4, 2, 3, 3, 4, 3, 4, 4, 5, 2, 3, 3, 4, 3, 4, 4, 5, 3, 4, 4, 5, 4, 5, 5, 6, 1, 2, 2, 3, 2, 3, 3, 4, 2, 3, 3, 4, 3, 4, 4, 5, 2, 3, 3, 4, 3, 4, 4, 5, 3, 4, 4, 5, 4, 5, 5, 6, 2, 3, 3, 4, 3, 4, 4, 5, 3, 4, 4, 5, 4, 5, 5, 6, 3, 4, 4, 5, 4, 5, 5, 6, 4, 5, 5, 6, 5, 6, 6, 7, 1, 2, 2, 3, 2, 3, 3, 4, 2, 3, 3, 4, 3, 4, 4, 5, 2, 3, 3, 4, 3, 4, 4, 5, 3, 4, 4, 5, 4, 5, 5, 6, 2, 3, 3, 4, 3, 4, 4, 5, 3, 4, 4, 5, 4, 5, 5, 6, 3, 4, 4, 5, 4, 5, 5, 6, 4, 5, 5, 6, 5, 6, 6, 7, 2, 3, 3, 4, 3, 4, 4, 5, 3, 4, 4, 5, 4, 5, 5, 6, 3, 4, 4, 5, 4, 5, 5, 6, 4, 5, 5, 6, 5, 6, 6, 7, 3, 4, 4, 5, 4, 5, 5, 6, 4, 5, 5, 6, 5, 6, 6, 7, 4, 5, 5, 6, 5, 6, 6, 7, 5, 6, 6, 7, 6, 7, 7, 8]⟩
theorem popP_get : ∀ S < 512, (popB.data.toList.getD (S >>> 8) 0).toNat + (popB.data.toList.getD (S &&& 255) 0).toNat = pop16 S := by decide +kernel
theorem popB_at {j : Nat} (h : j < popB.size) : (popB[j]'h).toNat = (popB.data.toList.getD j 0).toNat := by
  have h2 : j < popB.data.toList.length := h
  rw [List.getD_eq_getElem?_getD, List.getElem?_eq_getElem h2]
  rfl
theorem popB_size : popB.size = 256 := by decide +kernel
theorem popB_le : ∀ j < 256, (popB.data.toList.getD j 0).toNat ≤ 8 := by decide +kernel
section
variable {P : Program} {own : Bool} {s : AS} {K : AS → Prop} {d : Option Nat} {x y : Opd}
theorem m_sixu {b : ByteArray} {j : Nat} {q : IntKind} (hx : s.ev x = .v (.string b)) (hj : s.ev y = .v (.int q (j : Nat))) (h : j < b.size) (k : K (s.put d (.v (.int .u8 (b[j]'h).toNat)))) : aop1 P own ⟨d, .pu .six [x, y], none⟩ s K :=
  ⟨_, ⟨b, q, j, by simp [hx, hj], by omega, by simpa using h, by simp⟩, k⟩
theorem m_addk {q : IntKind} {a b c : Int} (hx : s.ev x = .v (.int q a)) (hy : s.ev y = .v (.int q b)) (hc : q.wrap (a + b) = c) (k : K (s.put d (.v (.int q c)))) : aop1 P own ⟨d, .bin .add x y, none⟩ s K := ⟨_, _, .int q c, hx, hy, by simp [pbin, hc], k⟩
theorem m_shr8 {a : Nat} (hx : s.ev x = .u a) (hy : s.ev y = .v (.int .u64 8)) (kk : K (s.put d (.u (a >>> 8)))) : aop1 P own ⟨d, .bin .shr x y, none⟩ s K := by
  refine ⟨_, _, _, hx, hy, ?_, kk⟩
  show (if (8 : Int) < 0 then none else some (Value.int .u16 ((a : Int).fdiv (2 ^ (min (8 : Int).toNat IntKind.u16.bits))))) = _
  rw [if_neg (by decide), show min (8 : Int).toNat IntKind.u16.bits = 8 from rfl, Nat.shiftRight_eq_div_pow]
  congr 2
  rw [Int.fdiv_eq_ediv_of_nonneg _ (by decide), show (2 : Int) ^ 8 = 256 from rfl, show (2 : Nat) ^ 8 = 256 from rfl]
  omega
theorem m_cvtk {q k : IntKind} {n c : Int} (hx : s.ev x = .v (.int q n)) (hc : k.wrap n = c) (kk : K (s.put d (.v (.int k c)))) : aop1 P own ⟨d, .pu (.cvt k) [x], none⟩ s K := ⟨_, ⟨q, n, by simp [hx], by rw [hc]⟩, kk⟩
end
/- The places that are left. -/
/-- Those of all that D tells. -/
def lfA (fb : Nat → Nat → Bool) (n : Nat) (D : Nat × Nat → Bool) : List ((Nat × Nat) × Nat) := (posP fb n n).zipIdx.filter fun q => D q.1
abbrev lfObj (fb : Nat → Nat → Bool) (n : Nat) (D : Nat × Nat → Bool) : Bool × List AV := (true, [.ob (.map (plArr (lfA fb n D)) (posP fb n n).length)])
theorem lfA_mem {fb : Nat → Nat → Bool} {n : Nat} {D : Nat × Nat → Bool} {q : (Nat × Nat) × Nat} (h : q ∈ lfA fb n D) : (q.1.1 < n ∧ q.1.2 < n ∧ fb q.1.1 q.1.2 = true) ∧ D q.1 = true ∧ q.2 < (posP fb n n).length := by
  obtain ⟨h1, h2⟩ := List.mem_filter.1 h
  have h3 := List.mem_zipIdx h1
  refine ⟨mem_posP.1 ?_, h2, by omega⟩
  rw [h3.2.2]
  exact List.getElem_mem _
theorem lfA_has {fb : Nat → Nat → Bool} {n : Nat} {D : Nat × Nat → Bool} {p : Nat × Nat} (h : p.1 < n ∧ p.2 < n ∧ fb p.1 p.2 = true) (hD : D p = true) : ∃ q ∈ lfA fb n D, q.1 = p := by
  obtain ⟨k, hk, e⟩ := List.mem_iff_getElem.1 (mem_posP.2 h : p ∈ posP fb n n)
  exact ⟨(p, k), List.mem_filter.2 ⟨by rw [List.mem_zipIdx_iff_getElem?]; simp [hk, e], hD⟩, rfl⟩
theorem lfA_all (fb : Nat → Nat → Bool) (n : Nat) : plArr (lfA fb n fun _ => true) = mkEs (posP fb n n) := by
  rw [mkEs_pl, lfA, List.filter_eq_self.2 fun _ _ => rfl]
theorem lfA_congr {fb : Nat → Nat → Bool} {n : Nat} {D E : Nat × Nat → Bool} (h : ∀ p : Nat × Nat, p.1 < n → p.2 < n → fb p.1 p.2 = true → D p = E p) : lfA fb n D = lfA fb n E := by
  refine List.filter_congr fun q hq => ?_
  have h3 := List.mem_zipIdx hq
  have : q.1 ∈ posP fb n n := by rw [h3.2.2]; exact List.getElem_mem _
  obtain ⟨h4, h5, h6⟩ := mem_posP.1 this
  exact h _ h4 h5 h6
theorem posP_nodup (fb : Nat → Nat → Bool) (n : Nat) : ∀ k, (posP fb n k).Nodup
  | 0 => by simp [posP]
  | k + 1 => by
    rw [posP, List.nodup_append]
    refine ⟨posP_nodup fb n k, ?_, fun a ha b hb e => ?_⟩
    · unfold rowP
      refine List.pairwise_map.2 (List.Pairwise.imp ?_ (List.nodup_range.filter fun j => fb k j))
      intro a b h e
      exact h (by simpa using e)
    · have h1 := mem_posP.1 ha
      have h2 := mem_rowP.1 hb
      rw [e] at h1
      omega
theorem lfA_nodup (fb : Nat → Nat → Bool) (n : Nat) (D : Nat × Nat → Bool) : ((lfA fb n D).map (·.1)).Nodup := by
  refine List.Nodup.sublist (List.filter_sublist.map _) (l₂ := (posP fb n n).zipIdx.map (·.1)) ?_
  rw [List.zipIdx_map_fst]
  exact posP_nodup fb n n
theorem lfA_born (fb : Nat → Nat → Bool) (n : Nat) (D : Nat × Nat → Bool) : ((plArr (lfA fb n D)).toList.map (·.born)).Nodup := by
  have e : (plArr (lfA fb n D)).toList.map (·.born) = (lfA fb n D).map (·.2) := by simp [plArr, Function.comp_def, plE, entP]
  rw [e]
  refine List.Nodup.sublist (List.filter_sublist.map _) (l₂ := (posP fb n n).zipIdx.map (·.2)) ?_
  rw [List.zipIdx_map_snd]
  exact List.nodup_range'
theorem erase_filter {L : List ((Nat × Nat) × Nat)} (h : (L.map (·.1)).Nodup) {j : Nat} {q : (Nat × Nat) × Nat} (hj : L[j]? = some q) : L.eraseIdx j = L.filter fun r => !decide (r.1 = q.1) := by
  induction L generalizing j with
  | nil => simp at hj
  | cons a L ih =>
    simp only [List.map_cons, List.nodup_cons] at h
    cases j with
    | zero =>
      simp at hj
      subst hj
      rw [List.eraseIdx_zero, List.tail_cons, List.filter_cons, if_neg (by simp), List.filter_eq_self.2]
      intro r hr
      have : r.1 ≠ a.1 := fun e => h.1 (List.mem_map.2 ⟨r, hr, e⟩)
      simpa using this
    | succ j =>
      have hq : L[j]? = some q := by simpa using hj
      have : a.1 ≠ q.1 := fun e => h.1 (List.mem_map.2 ⟨q, List.mem_of_getElem? hq, e.symm⟩)
      rw [List.eraseIdx_cons_succ, ih h.2 hq, List.filter_cons, if_pos (by simpa using this)]
theorem lfA_erase {fb : Nat → Nat → Bool} {n : Nat} {D : Nat × Nat → Bool} {j : Nat} {q : (Nat × Nat) × Nat} (hj : (lfA fb n D)[j]? = some q) :
    (plArr (lfA fb n D)).eraseIdxIfInBounds j = plArr (lfA fb n fun p => D p && !decide (p = q.1)) := by
  have hlt : j < (plArr (lfA fb n D)).size := by simpa [plArr] using (List.getElem?_eq_some_iff.1 hj).1
  rw [Array.eraseIdxIfInBounds, dif_pos hlt]
  apply Array.ext'
  rw [Array.toList_eraseIdx]
  simp only [plArr]
  rw [show (List.map plE (lfA fb n D)).eraseIdx j = ((lfA fb n D).eraseIdx j).map plE from by simp [List.eraseIdx_eq_take_drop_succ], erase_filter (lfA_nodup fb n D) hj, lfA, List.filter_filter]
  congr 1
  unfold lfA
  refine List.filter_congr fun r _ => ?_
  rw [Bool.and_comm]
theorem plArr_get {l : List ((Nat × Nat) × Nat)} {n : Nat} {e : MapEntry} (h : (plArr l).toList[n]? = some e) : ∃ p, l[n]? = some p ∧ plE p = e := by
  simp only [plArr, List.getElem?_map, Option.map_eq_some_iff] at h
  exact h
theorem plE_key {q : (Nat × Nat) × Nat} {a b : Nat} (h : (plE q).key = keyP a b) : q.1 = (a, b) := by
  obtain ⟨h1, h2⟩ := keyP_inj (h : keyP q.1.1 q.1.2 = keyP a b)
  exact Prod.ext (Int.ofNat_inj.1 h1) (Int.ofNat_inj.1 h2)
end Go.Am
namespace Go.Proofs.YtngfogpbljconaaDoor
variable [Go.Am.CodeBlk]
open Go.Am
attribute [local irreducible] AW Outs Weak Lends Lend Sp aops atree aop1 Then Round InBlock Done
attribute [local irreducible] SpH SpX DoneH DoneX
theorem onesP_spec (S : Nat) (hS2 : S < 512) : Sp Tryd.prog 86 [.u S] (.i (pop16 S : Nat)) := by
  have h1 : S >>> 8 < popB.size := by rw [popB_size, Nat.shiftRight_eq_div_pow]; omega
  have h2 : S &&& 255 < popB.size := by rw [popB_size]; exact Nat.lt_of_le_of_lt Nat.and_le_right (by decide)
  have hg := popP_get S hS2
  have e1 := popB_at h1
  have e2 := popB_at h2
  rw [popB_size] at h1 h2
  have l1 := popB_le _ h1
  have l2 := popB_le _ h2
  rw [← popB_size] at h1 h2
  rw [← e1, ← e2] at hg
  rw [← e1] at l1
  rw [← e2] at l2
  rw [← hg]
  refine spec_of Tryd.func86 rfl cc86 rfl ?_
  unfold ac86
  repeat (first | ((first | refine step_ops ?_ | refine step_tree ?_); (refine m_mov (by conv => lhs; whnf) ?_)) | refine end_ops ?_ | refine seq_ops ?_ | refine seq_tree ?_)
  refine step_tree ?_
  refine m_shr8 (a := S) rfl rfl ?_
  refine step_tree ?_
  refine m_sixu (b := popB) (j := S >>> 8) (q := .u16) rfl rfl h1 ?_
  repeat (refine step_tree ?_; (refine m_mov (by conv => lhs; whnf) ?_))
  refine step_tree ?_
  refine m_and16 (a := S) (b := 255) rfl rfl (by omega) (by decide) ?_
  refine step_tree ?_
  refine m_sixu (b := popB) (j := S &&& 255) (q := .u16) rfl rfl h2 ?_
  generalize ((popB[S >>> 8]'h1).toNat) = p at *
  generalize ((popB[S &&& 255]'h2).toNat) = q at *
  have w1 : IntKind.u8.wrap ((p : Int) + (q : Int)) = ((p + q : Nat) : Int) := by
    have : IntKind.u8.wrap ((p : Int) + (q : Int)) = ((p : Int) + (q : Int)) % 256 := by simp [IntKind.wrap, IntKind.bits, IntKind.signed]
    omega
  have w2 : IntKind.i64.wrap ((p + q : Nat) : Int) = ((p + q : Nat) : Int) := by rw [IntKind.wrap_i64]; omega
  refine step_tree ?_
  refine m_addk rfl rfl w1 ?_
  refine step_tree ?_
  refine m_cvtk rfl w2 ?_
  repeat (first | (refine step_tree ?_; (refine m_mov (by conv => lhs; whnf) ?_)) | refine end_tree ?_ | refine AW_ret ?_ | refine ret_done ?_)
  exact outs_i rfl
theorem sizeP_spec (S : Nat) (hS2 : S < 512) : Sp Tryd.prog 73 [.u S] (.i (pop16 S : Nat)) := by
  refine spec_of Tryd.func73 rfl cc73 rfl ?_
  unfold ac73
  repeat (first | (refine step_ops ?_; (refine m_mov (by conv => lhs; whnf) ?_)) | refine end_ops ?_ | refine seq_ops ?_)
  (refine step_ops ?_); (apply m_call (onesP_spec S hS2)); (· repeat (first | exact lends_nil | (refine lends_cons ?_ ?_; (· exact lend_v))))
  repeat (first | (refine step_ops ?_; (refine m_mov (by conv => lhs; whnf) ?_)) | refine end_ops ?_ | refine AW_ret ?_ | refine ret_done ?_)
  exact outs_i rfl
end Go.Proofs.YtngfogpbljconaaDoor
namespace Go.Am
variable [Go.Am.CodeBlk]
section
variable {P : Program} {N : Nat} {s : AS} {Q : Exit → AS → Prop}
/-- A scope whose rest is shown once, for the first pass too. -/
theorem AW_scopeL {c rest : ACode} {α : Type} (l : Nat) (Inv : α → Prop) (I : α → AS) (m : α → Nat) (hfind : afind c l = some (.seq .skip rest)) (pass : ∀ x, Inv x → AW P N rest (I x) (Jump l Inv I m (some (m x)) Q))
    (first : (∀ x, Inv x → AW P N rest (I x) (Jump l Inv I m none Q)) → AW P N c s (Jump l Inv I m none Q)) : AW P N (.scope c) s Q :=
  AW_scope l Inv I m hfind (first fun x hx => AW_mono (pass x hx) fun e s h => by
    cases e with
    | goto l' =>
      obtain ⟨h1, x', h2, h3, _⟩ := h
      exact ⟨h1, x', h2, h3, fun n hn => by cases hn⟩
    | _ => exact h) fun x hx => AW_seq (AW_skip (norm_then (pass x hx)))
theorem goto_block {id l : Nat} (h : Q (.goto l) s) : InBlock id Q (.goto l) s := h
theorem goto_then {l : Nat} {K : AS → Prop} (h : Q (.goto l) s) : Then K Q (.goto l) s := h
theorem goto_round {α : Type} {Inv : α → Prop} {I : α → AS} {m : α → Nat} {x : α} {l : Nat} (h : Q (.goto l) s) : Round Inv I m x Q (.goto l) s := h
theorem goto_jump {α : Type} {l : Nat} {Inv : α → Prop} {I : α → AS} {m : α → Nat} {bd : Option Nat} (x : α) (h1 : Inv x) (h2 : Weak s (I x)) (h3 : ∀ n, bd = some n → m x < n) : Jump l Inv I m bd Q (.goto l) s := ⟨rfl, x, h1, h2, h3⟩
/-- Forgetting, with other names for a few regions. -/
theorem weak_stN {l : List (Nat × AV)} {h : List (Nat × (Bool × List AV))} (f : Nat → Nat) (ks : List Nat) (hk : h.map (·.1) = ks) (hd : (ks.map f).Nodup) (hb : (ks.all fun k => decide (k < 4000000) && decide (f k < 4000000)) = true) (hl : HasF s f l) (hh : HasJ s f h)
    (hr : refsT (fun r => (look h r).isSome) l = true) (hrh : refsH (fun r => (look h r).isSome) h = true) : Weak s (st l h) := by
  refine weak_stR f hl hh ?_ (fun p hp => ?_) hr hrh
  · rw [← hk, List.map_map] at hd
    exact hd
  · have h1 := List.all_eq_true.1 hb p.1 (by rw [← hk]; exact List.mem_map.2 ⟨p, hp, rfl⟩)
    simp only [Bool.and_eq_true, decide_eq_true_eq] at h1
    exact .inl h1
end
/-- One name more is told for another. -/
def fNm (a b : Nat) (q : Nat) : Nat := if q = a then b else q
theorem nodup_len {n : Nat} {l : List Nat} (h : l.Nodup) (hl : ∀ r ∈ l, r < n) : l.length ≤ n := by
  have hp : l.Perm ((List.range n).filter fun r => decide (r ∈ l)) := by
    refine (List.perm_ext_iff_of_nodup h (List.nodup_range.filter _)).2 fun a => ?_
    simp only [List.mem_filter, List.mem_range, decide_eq_true_eq]
    exact ⟨fun h => ⟨hl a h, h⟩, fun h => h.2⟩
  have h1 := hp.length_eq
  have h2 := List.length_filter_le (fun r => decide (r ∈ l)) (List.range n)
  rw [List.length_range] at h2
  omega
end Go.Am
namespace Go.Proofs.YtngfogpbljconaaDoor
variable [Go.Am.CodeBlk]
open Go.Am
attribute [local irreducible] AW Outs Weak Lends Lend Sp aops atree aop1 Then Round InBlock Done
attribute [local irreducible] SpH SpX DoneH DoneX
def bdN (fb : Nat → Nat → Bool) (n : Nat) : List AV := [.i (n : Nat), .rmp false (mkEs (posP fb n n)) (posP fb n n).length]
/-- The places whose rows were not taken yet. -/
def notIn (l : List Nat) (p : Nat × Nat) : Bool := !l.contains p.1
/-- .., and that are not in the beginning of a row. -/
def notIn2 (l : List Nat) (row c : Nat) (p : Nat × Nat) : Bool := !l.contains p.1 && !(decide (p.1 = row) && decide (p.2 < c))
/-- The numbers of rooks, by the entries that were seen. -/
def rkS (W : List RWay) (n : Nat) (seen : Array Nat) : List Int := (List.range (n + 1)).map fun k => ((sumW W fun q => if seen.contains q.b then q.v * popIs k q.t else 0 : Nat) : Int)
theorem rkS_none (W : List RWay) (n : Nat) : rkS W n #[] = List.replicate (n + 1) 0 := by
  unfold rkS
  rw [List.eq_replicate_iff]
  refine ⟨by simp, fun b hb => ?_⟩
  obtain ⟨k, _, rfl⟩ := List.mem_map.1 hb
  rw [sumW_none]
  rfl
theorem rkS_get (W : List RWay) (seen : Array Nat) {n k : Nat} (h : k < n + 1) : (rkS W n seen).getD k 0 = ((sumW W fun q => if seen.contains q.b then q.v * popIs k q.t else 0 : Nat) : Int) := by
  unfold rkS
  simp [h]
theorem rkS_set {W : List RWay} {n : Nat} {seen : Array Nat} {p : RWay} (hn : (W.map (·.b)).Nodup) (hp : p ∈ W) (hs : seen.contains p.b = false) (hk : pop16 p.t < n + 1) :
    (rkS W n seen).set (pop16 p.t) ((rkS W n seen).getD (pop16 p.t) 0 + (p.v : Nat)) = rkS W n (seen.push p.b) := by
  apply List.ext_getElem?
  intro j
  rw [List.getElem?_set, rkS_get W seen hk]
  have hl : (rkS W n seen).length = n + 1 := by simp [rkS]
  by_cases e : pop16 p.t = j
  · subst e
    rw [if_pos rfl, if_pos (by omega)]
    simp only [rkS, List.getElem?_map, List.getElem?_range hk, Option.map_some]
    rw [sumW_seen hn hp hs (fun q => q.v * popIs (pop16 p.t) q.t)]
    have : popIs (pop16 p.t) p.t = 1 := if_pos rfl
    rw [this]
    simp
  · rw [if_neg e]
    by_cases hj : j < n + 1
    · simp only [rkS, List.getElem?_map, List.getElem?_range hj, Option.map_some]
      rw [sumW_seen hn hp hs (fun q => q.v * popIs j q.t)]
      have : popIs j p.t = 0 := if_neg e
      rw [this]
      simp
    · simp [rkS, hj]
theorem pop_le {T n : Nat} (hn : n ≤ 16) (hT : T < 2 ^ n) : pop16 T ≤ n := by
  have key : ∀ m, sumN m (fun k => if T.testBit k then 1 else 0) ≤ min m n := by
    intro m
    induction m with
    | zero => simp [sumN]
    | succ m ih =>
      simp only [sumN]
      by_cases hm : m < n
      · split <;> omega
      · have : T.testBit m = false := Nat.testBit_lt_two_pow (Nat.lt_of_lt_of_le hT (Nat.pow_le_pow_right (by decide) (by omega)))
        rw [this]
        simp
        omega
  have := key 16
  unfold pop16
  omega
theorem addC_one (row : Nat → Bool) (T c : Nat) : addC row (fun _ => 1) T c ≤ 1 := by
  unfold addC
  split
  · exact Nat.le_refl _
  · omega
theorem sumW_mul (w : List RWay) (g : RWay → Nat) (k : Nat) : sumW w (fun q => g q * k) = sumW w g * k := by
  induction w with
  | nil => simp [sumW]
  | cons q w ih => rw [sumW_cons, sumW_cons, ih, Nat.add_mul]
theorem wv_le (w : List RWay) (T : Nat) : wv w T ≤ wE w (fun _ => 1) := by
  unfold wv
  cases h : w.find? fun p => p.t == T with
  | none => exact Nat.zero_le _
  | some p =>
    have h3 : p.v * 1 ≤ wE w fun _ => 1 := sumW_le (g := fun q => q.v * 1) (List.mem_of_find?_eq_some h)
    show p.v ≤ _
    omega
theorem zeros_flat (k : Nat) : (List.replicate k (List.map AV.v [Value.int .i64 0])).flatten = (List.replicate k (0 : Int)).map AV.i := by
  induction k with
  | zero => rfl
  | succ k ih => rw [List.replicate_succ, List.flatten_cons, ih]; rfl
structure RkInv (fb : Nat → Nat → Bool) (n : Nat) (l : List Nat) (W : List RWay) (ck : Nat) : Prop where
  nd : l.Nodup
  lt : ∀ r ∈ l, r < n
  ok : WaysOk n ck W
  sum : ∀ g, wE W g = rowsR fb n l g 0
abbrev brd (fb : Nat → Nat → Bool) (n : Nat) : Nat × (Bool × List AV) := (1, (true, bdN fb n))
def rkR (fb : Nat → Nat → Bool) (n : Nat) : AV := .ro true 1 (((List.range (n + 1)).map fun k => ((rkN fb n k : Nat) : Int)).map AV.i) (n + 1)
theorem plArr_old {fb : Nat → Nat → Bool} {n : Nat} {D : Nat × Nat → Bool} : ∀ e ∈ (plArr (lfA fb n D)).toList, e.born < (posP fb n n).length := by
  intro e he
  obtain ⟨q, hq, rfl⟩ := plArr_mem.1 he
  exact (lfA_mem hq).2.2
theorem plArr_keys {fb : Nat → Nat → Bool} {n : Nat} {D : Nat × Nat → Bool} (h8 : n ≤ 8) : ∀ e ∈ (plArr (lfA fb n D)).toList, ∃ q, keyOf Tryd.prog 54 e.key = some q := by
  intro e he
  obtain ⟨q, hq, rfl⟩ := plArr_mem.1 he
  have := (lfA_mem hq).1
  exact key_place (wf_int (by omega) (by omega)) (wf_int (by omega) (by omega))
/-- A place is asked for among those that are left. -/
theorem m_lfget {own : Bool} {d : Option Nat} {s : AS} {K : AS → Prop} {x i : Opd} {r a b n : Nat} {fb : Nat → Nat → Bool} {D : Nat × Nat → Bool} (h8 : n ≤ 8) (ha : a < n) (hb : b < n) (hx : s.ev x = .mp r) (hr : s.hp r = some (lfObj fb n D)) (hi : exV (s.ev i) = some (keyP a b))
    (k : K (s.put d (.b (fb a b && D (a, b))))) : aop1 Tryd.prog own ⟨d, .mgetk 54 (.bool false) false x i, none⟩ s K := by
  refine m_mgetk place_law (.inl ⟨r, hx, hr⟩) hi (key_place (wf_int (by omega) (by omega)) (wf_int (by omega) (by omega))) (plArr_keys h8) ?_ ?_ k
  · intro e he hk
    obtain ⟨q, hq, rfl⟩ := plArr_mem.1 he
    have h1 := plE_key hk
    have h2 := lfA_mem hq
    rw [h1] at h2
    have : (fb a b && D (a, b)) = true := by rw [h2.1.2.2, h2.2.1]; rfl
    rw [this]
    rfl
  · intro hno
    have : (fb a b && D (a, b)) = false := by
      rw [Bool.eq_false_iff]
      intro ht
      simp only [Bool.and_eq_true] at ht
      obtain ⟨q, hq, e⟩ := lfA_has (fb := fb) (n := n) (p := (a, b)) ⟨ha, hb, ht.1⟩ ht.2
      exact hno (plE q) (plArr_mem.2 ⟨q, hq, rfl⟩) (by unfold plE entP; rw [e])
    rw [this]
    rfl
/-- A place that is left is deleted. -/
theorem m_lfdel {own : Bool} {d : Option Nat} {s : AS} {K : AS → Prop} {x i : Opd} {r a b n : Nat} {fb : Nat → Nat → Bool} {D : Nat × Nat → Bool} (h8 : n ≤ 8) (ha : a < n) (hb : b < n) (hx : s.ev x = .mp r) (hr : s.hp r = some (lfObj fb n D)) (hi : exV (s.ev i) = some (keyP a b))
    (k : K ((s.mem r (lfObj fb n fun p => D p && !decide (p = (a, b)))).put d (.tup []))) : aop1 Tryd.prog own ⟨d, .mdel 54 x i, none⟩ s K := by
  refine m_mdel place_law hx hr hi (key_place (wf_int (by omega) (by omega)) (wf_int (by omega) (by omega))) (plArr_keys h8) (fun j e he hk => ?_) fun hno => ?_
  · obtain ⟨q, hq, rfl⟩ := plArr_get he
    have h1 := plE_key hk
    rw [lfA_erase hq, h1]
    exact k
  · have e : lfA fb n D = lfA fb n fun p => D p && !decide (p = (a, b)) := by
      unfold lfA
      refine List.filter_congr fun q hq => ?_
      by_cases h : D q.1 = true
      · have : q.1 ≠ (a, b) := fun e => hno (plE q) (plArr_mem.2 ⟨q, List.mem_filter.2 ⟨hq, h⟩, rfl⟩) (by unfold plE entP; rw [e])
        simp [this]
      · simp at h; simp [h]
    rw [e]
    exact k
theorem rookNumbers_spec (fb : Nat → Nat → Bool) (n : Nat) (h1 : 1 ≤ n) (h8 : n ≤ 8) : Sp Tryd.prog 45 [.agg (bdN fb n)] (rkR fb n) := by
  refine spec_of Tryd.func45 rfl cc45 rfl ?_
  unfold ac45
  repeat (first | (refine step_ops ?_; (first | (refine m_nils ?_) | (refine m_box rfl ?_ ?_; (· first | rfl | (simp [cellOk, Value.oneCell']; done))))) | refine end_ops ?_ | refine seq_ops ?_)
  refine AW_scopeL (α := List Nat × List RWay × Nat) 0 (fun x => RkInv fb n x.1 x.2.1 x.2.2)
    (fun x => st [(1, .pt 1 0), (3, .mp 100), (4, .mp 101)] [brd fb n, (100, wObj x.2.1 x.2.2), (101, lfObj fb n (notIn x.1))]) (fun x => n - x.1.length) rfl ?_ ?_
  · rintro ⟨l, W, ck⟩ ⟨hnd, hlt, hok, hsum⟩
    dsimp only at hnd hlt hok hsum ⊢
    repeat (first | (refine step_ops ?_; (refine m_mov (by conv => lhs; whnf) ?_)) | refine seq_ops ?_ | refine AW_seq ?_)
    refine step_ops ?_
    refine m_mrg rfl (by decide) rfl fun bm => ?_
    repeat (first | refine end_ops ?_ | refine AW_block ?_)
    refine AW_loop (α := Unit) (fun _ => True) (fun _ => st [(1, .pt 1 0), (3, .mp 100), (4, .mp 101), (20, .mit 20 (some 101) bm #[] 0)] [brd fb n, (100, wObj W ck), (101, lfObj fb n (notIn l)), (20, (true, [.ob (.mapIter (some bm) (posP fb n n).length #[] (posP fb n n).length)]))])
      (fun _ => 0) () trivial (weak_st ?_ ?_ rfl rfl) ?_
    · (repeat' (first | exact trivial | refine And.intro ?_ ?_)) <;> (first | rfl | skip)
    · (repeat' (first | exact trivial | refine And.intro ?_ ?_)) <;> (first | rfl | skip)
    rintro ⟨⟩ _
    refine AW_seq ?_
    refine AW_ops ?_
    refine step_ops ?_
    refine m_mnx rfl rfl (by decide) rfl plArr_old (Nat.le_refl _) (fun hall => ?_) (fun e he hs => ?_)
    · have hnone : ∀ r, r < n → r ∉ l → ∀ c, c < n → fb r c = false := by
        intro r hr hrl c hc
        rw [Bool.eq_false_iff]
        intro hf
        obtain ⟨q, hq, e⟩ := lfA_has (fb := fb) (n := n) (D := notIn l) (p := (r, c)) ⟨hr, hc, hf⟩ (by simp [notIn, hrl])
        have := hall (plE q) (plArr_mem.2 ⟨q, hq, rfl⟩)
        simp at this
      have hk : ∀ k, wE W (popIs k) = rkN fb n k := fun k => by rw [hsum, rkN_any (by omega) hnd hlt hnone]
      have hW1 : wE W (fun _ => 1) ≤ 43046721 := by
        have hlen := nodup_len hnd hlt
        rw [hsum]
        refine Nat.le_trans (rowsR_le (b := 1) (fun _ => Nat.le_refl _) l 0) ?_
        rw [Nat.mul_one]
        exact Nat.le_trans (Nat.pow_le_pow_left (by omega : n + 1 ≤ 9) _) (Nat.le_trans (Nat.pow_le_pow_right (by omega) (by omega : l.length ≤ 8)) (by decide))
      have hle : ∀ k, rkN fb n k ≤ 43046721 := fun k => by
        rw [← hk]
        refine Nat.le_trans (sumW_mono fun p _ => Nat.mul_le_mul_left p.v (h := ?_)) hW1
        show popIs k p.t ≤ 1
        unfold popIs; split <;> omega
      repeat (first | (refine step_ops ?_; (first | (refine m_add rfl rfl ?_ ?_ ?_; (· omega); (· omega)) | (apply m_ld_pt; (· rfl); (· rfl); (· rfl)) | (refine m_ext rfl rfl ?_) | (refine m_fa rfl ?_))) | refine end_ops ?_ | refine seq_ops ?_ | (refine cond_f rfl ?_ ?_; (· rfl)) | refine AW_seq ?_ | refine norm_then ?_ | refine exit_then ?_ | refine exit_round ?_ | refine AW_exit ?_ | refine exit_block ?_)
      refine step_ops ?_
      refine m_mk (n := n + 1) rfl rfl (by omega) (by omega) ?_
      repeat (first | (refine step_ops ?_; (refine m_mov (by conv => lhs; whnf) ?_)) | refine end_ops ?_ | refine seq_ops ?_ | refine AW_seq ?_)
      refine step_ops ?_
      refine m_mrg (q := 100) rfl (by decide) rfl fun bm2 => ?_
      repeat (first | refine end_ops ?_ | refine AW_block ?_)
      refine AW_loop (α := Array Nat) (fun _ => True)
        (fun seen => st [(1, .pt 1 0), (11, .sl 65 1 0 (n + 1)), (67, .mit 67 (some 100) bm2 #[] 0)]
          [brd fb n, (65, (true, (rkS W n seen).map AV.i)), (100, wObj W ck), (67, (true, [.ob (.mapIter (some bm2) ck seen ck)]))])
        (fun seen => leftW W seen) #[] trivial (weak_st ?_ ?_ rfl rfl) ?_
      · (repeat' (first | exact trivial | refine And.intro ?_ ?_)) <;> (first | rfl | skip)
      · (repeat' (first | exact trivial | refine And.intro ?_ ?_)) <;> (first | rfl | skip)
        rw [rkS_none]
        show some (true, (List.replicate (n + 1) (List.map AV.v [Value.int .i64 0])).flatten) = _
        rw [zeros_flat]
      rintro seen _
      refine AW_seq ?_
      refine AW_ops ?_
      refine step_ops ?_
      refine m_mnx (q := 100) (r := 67) (c0 := ck) rfl rfl (by decide) rfl (fun e he => ?_) (Nat.le_refl _) (fun hall2 => ?_) (fun e he hs => ?_)
      · obtain ⟨p, hp, rfl⟩ := wA_mem.1 he
        exact hok.old p hp
      · have hfin : rkS W n seen = (List.range (n + 1)).map fun k => ((rkN fb n k : Nat) : Int) := by
          refine List.map_congr_left fun k _ => ?_
          rw [← hk]
          congr 1
          refine sumW_congr fun q hq => ?_
          have h3 : seen.contains q.b = true := hall2 q.ent (wA_mem.2 ⟨q, hq, rfl⟩)
          rw [if_pos h3]
        rw [hfin]
        repeat (first | (refine step_ops ?_; (first | (refine m_mov (by conv => lhs; whnf) ?_) | (refine m_ext rfl rfl ?_))) | refine end_ops ?_ | refine seq_ops ?_ | (refine cond_f rfl ?_ ?_; (· rfl)) | refine AW_seq ?_ | refine AW_ret ?_ | refine ret_done ?_ | refine norm_then ?_ | refine exit_then ?_ | refine exit_round ?_ | refine AW_exit ?_ | refine exit_block ?_)
        exact outs_sl rfl (by simp) (allv_ints _)
      · obtain ⟨p, hp, rfl⟩ := wA_mem.1 he
        have hpt := hok.lt p hp
        have hpt512 : p.t < 512 := Nat.lt_of_lt_of_le hpt (Nat.pow_le_pow_right (by decide) (by omega : n ≤ 9))
        have hpop : pop16 p.t ≤ n := pop_le (by omega) hpt
        repeat (first | (refine step_ops ?_; (refine m_ext rfl rfl ?_)) | refine end_ops ?_ | refine seq_ops ?_ | (refine cond_t rfl ?_ ?_; (· rfl)) | refine skip_then ?_ | refine AW_seq ?_ | refine norm_then ?_ | refine AW_block ?_)
        refine step_ops ?_
        refine m_ment (q := 100) (r := 67) (e := p.ent) (ka := .u p.t) (va := .i (p.v : Nat)) rfl rfl (by decide) rfl he (wA_born hok.born) rfl rfl ?_
        repeat (first | (refine step_ops ?_; (first | (refine m_mov (by conv => lhs; whnf) ?_) | (refine m_ext rfl rfl ?_))) | refine end_ops ?_ | refine AW_ops ?_)
        (refine step_ops ?_); (apply m_call (sizeP_spec p.t hpt512)); (· repeat (first | exact lends_nil | (refine lends_cons ?_ ?_; (· exact lend_v))))
        have hgd : (rkS W n seen).getD (pop16 p.t) 0 = ((sumW W fun q => if seen.contains q.b then q.v * popIs (pop16 p.t) q.t else 0 : Nat) : Int) := rkS_get W seen (by omega)
        have hb1 : (sumW W fun q => if seen.contains q.b then q.v * popIs (pop16 p.t) q.t else 0) ≤ 43046721 := by
          refine Nat.le_trans (sumW_mono fun q _ => ?_) hW1
          show _ ≤ q.v * 1
          split
          · exact Nat.mul_le_mul_left _ (by unfold popIs; split <;> omega)
          · omega
        have hb2 : p.v ≤ 43046721 := by
          have h3 : p.v * 1 ≤ wE W fun _ => 1 := sumW_le (g := fun q => q.v * 1) hp
          omega
        have hbs := leftW_lt hp hs
        have hrl : (rkS W n seen).length = n + 1 := by simp [rkS]
        have hb3 : 0 ≤ (rkS W n seen).getD (pop16 p.t) 0 ∧ (rkS W n seen).getD (pop16 p.t) 0 ≤ 43046721 := by rw [hgd]; omega
        repeat (first | (refine step_ops ?_; (first | (refine m_mov (by conv => lhs; whnf) ?_) | (refine m_add rfl rfl ?_ ?_ ?_; (· omega); (· omega)) | (refine m_idx1_sl rfl rfl ?_ ?_; (· omega)) | (refine m_ld_pti rfl (by rfl) ?_ ?_; (· first | omega | (simp; omega))) | (apply m_st; (· rfl); (· rfl); (· rfl); (· first | omega | (simp; done) | (simp; omega)); (· rfl)))) | refine end_ops ?_ | refine norm_block ?_)
        refine next_round (seen.push p.b) trivial (weak_st ?_ ?_ rfl rfl) hbs
        · (repeat' (first | exact trivial | refine And.intro ?_ ?_)) <;> (first | rfl | skip)
        · (repeat' (first | exact trivial | refine And.intro ?_ ?_)) <;> (first | rfl | skip)
          rw [← rkS_set hok.born hp hs (by omega), List.map_set]
          rfl
    · obtain ⟨q, hq, rfl⟩ := plArr_mem.1 he
      obtain ⟨⟨hr, hc, hf⟩, hD, _⟩ := lfA_mem hq
      obtain ⟨⟨row, col⟩, stamp⟩ := q
      dsimp only at hr hc hf
      repeat (first | (refine step_ops ?_; (refine m_ext rfl rfl ?_)) | refine end_ops ?_ | refine seq_ops ?_ | (refine cond_t rfl ?_ ?_; (· rfl)) | refine skip_then ?_ | refine AW_seq ?_ | refine norm_then ?_ | refine AW_block ?_)
      refine step_ops ?_
      refine m_ment (e := plE ((row, col), stamp)) (ka := .agg [.i (row : Nat), .i (col : Nat)]) (va := .b true) rfl rfl (by decide) rfl he (lfA_born fb n _) rfl rfl ?_
      repeat (first | (refine step_ops ?_; (first | (refine m_mov (by conv => lhs; whnf) ?_) | (refine m_ext rfl rfl ?_) | (refine m_alloc ?_) | (refine m_stall rfl rfl rfl ?_ ?_ ?_ ?_; (· first | rfl | (simp [*]; done)); (· first | rfl | (simp [*]; done)); (· first | rfl | (simp [cellOk, Value.oneCell']; done))))) | refine end_ops ?_ | refine seq_ops ?_)
      refine step_ops ?_
      refine m_clone 102 (cloneWays_spec (wA W) ck) (.inl ⟨100, rfl, rfl⟩) rfl (by decide) ?_
      repeat (first | (refine step_ops ?_; (first | (refine m_mov (by conv => lhs; whnf) ?_) | (apply m_ld_pt; (· rfl); (· rfl); (· rfl)) | (refine m_fa rfl ?_))) | refine end_ops ?_ | refine seq_ops ?_ | refine AW_seq ?_ | refine AW_block ?_)
      have hrl' : row ∉ l := by
        have : (l.contains row) = false := by simpa [notIn] using hD
        simpa using this
      have hlen := nodup_len hnd hlt
      have hW1 : wE W (fun _ => 1) ≤ 43046721 := by
        rw [hsum]
        refine Nat.le_trans (rowsR_le (b := 1) (fun _ => Nat.le_refl _) l 0) ?_
        rw [Nat.mul_one]
        exact Nat.le_trans (Nat.pow_le_pow_left (by omega : n + 1 ≤ 9) _) (Nat.le_trans (Nat.pow_le_pow_right (by omega) (by omega : l.length ≤ 8)) (by decide))
      refine AW_loop (α := Nat × List RWay × Nat) (fun x => x.1 ≤ n ∧ WaysOk n x.2.2 x.2.1 ∧ ∀ g, wE x.2.1 g = sumW W fun q => q.v * (g q.t + sumN x.1 (addC (fb row) g q.t)))
        (fun x => st [(1, .pt 1 0), (3, .mp 100), (4, .mp 101), (5, .pt 5 0), (6, .mp 102), (28, .i (n : Nat)), (29, .i (x.1 : Nat))]
          [brd fb n, (5, (true, [.i (row : Nat), .i (col : Nat)])), (100, wObj W ck), (101, lfObj fb n (notIn2 l row x.1)), (102, wObj x.2.1 x.2.2)])
        (fun x => n - x.1) (0, W, ck) ⟨Nat.zero_le _, hok, fun g => rfl⟩ (weak_st ?_ ?_ rfl rfl) ?_
      · (repeat' (first | exact trivial | refine And.intro ?_ ?_)) <;> (first | rfl | skip)
      · (repeat' (first | exact trivial | refine And.intro ?_ ?_)) <;> (first | rfl | skip)
        show some (lfObj fb n (notIn l)) = some (lfObj fb n (notIn2 l row 0))
        congr 4
        funext p
        simp [notIn, notIn2]
      rintro ⟨c, L, ck2⟩ ⟨hcn, hokL, hsumL⟩
      dsimp only at hcn hokL hsumL ⊢
      by_cases hc8 : c < n
      · repeat (first | (refine step_ops ?_; (first | (refine m_mov (by conv => lhs; whnf) ?_) | (refine m_lss rfl rfl ?_) | (apply m_ld_pt; (· rfl); (· rfl); (· rfl)) | (refine m_alloc ?_) | (refine m_fa rfl ?_) | (refine m_bld_2 (by conv => lhs; whnf) (by conv => lhs; whnf) (by decide)  (by decide) (by rfl) (by rfl) ?_) | (refine m_ldall rfl rfl ?_ ?_; (· first | rfl | (simp; done) | (simp [*]; done))) | (refine m_stall rfl rfl rfl ?_ ?_ ?_ ?_; (· first | rfl | (simp [*]; done)); (· first | rfl | (simp [*]; done)); (· first | rfl | (simp [cellOk, Value.oneCell']; done))))) | refine end_ops ?_ | refine seq_ops ?_ | (refine cond_t rfl ?_ ?_; (· (refine decide_eq_true ?_; omega))) | refine skip_then ?_ | refine AW_seq ?_ | refine AW_block ?_)
        refine step_ops ?_
        refine m_lfget (a := row) (b := c) h8 hr hc8 rfl rfl rfl ?_
        have hD2 : notIn2 l row c (row, c) = true := by simp [notIn2, hrl']
        rw [hD2, Bool.and_true]
        have hlf : lfA fb n (fun p => notIn2 l row c p && !decide (p = (row, c))) = lfA fb n (notIn2 l row (c + 1)) := by
          congr 1
          funext p
          obtain ⟨i, j⟩ := p
          simp only [notIn2, Prod.mk.injEq]
          by_cases e1 : i = row
          · by_cases e2 : j = c
            · simp [e1, e2]
            · have : decide (j < c + 1) = decide (j < c) := decide_eq_decide.2 (by omega)
              simp [e1, e2, this]
          · simp [e1]
        by_cases hf2 : fb row c = true
        · repeat (first | (refine step_ops ?_; (first | (refine m_mov (by conv => lhs; whnf) ?_) | (refine m_not rfl ?_) | (refine m_ldall rfl rfl ?_ ?_; (· first | rfl | (simp; done) | (simp [*]; done))))) | refine end_ops ?_ | refine seq_ops ?_ | (refine cond_f rfl ?_ ?_; (· (simp [*]; done))) | refine skip_then ?_)
          refine step_ops ?_
          refine m_lfdel (a := row) (b := c) h8 hr hc8 rfl rfl rfl ?_
          repeat (first | (refine step_ops ?_; (refine m_mov (by conv => lhs; whnf) ?_)) | refine end_ops ?_ | refine seq_ops ?_)
          refine step_ops ?_
          refine m_mrg (q := 100) rfl (by decide) rfl fun bm3 => ?_
          repeat (first | refine end_ops ?_ | refine AW_block ?_)
          refine AW_loop (α := List RWay × Nat × Array Nat) (fun x => WaysOk n x.2.1 x.1 ∧ ∀ g, wE x.1 g = wE L g + sumW W fun q => if x.2.2.contains q.b then q.v * addC (fb row) g q.t c else 0)
            (fun x => st [(1, .pt 1 0), (3, .mp 100), (4, .mp 101), (5, .pt 5 0), (6, .mp 102), (7, .i (c : Nat)), (28, .i (n : Nat)), (29, .i (c : Nat)), (43, .mit 43 (some 100) bm3 #[] 0)]
              [brd fb n, (5, (true, [.i (row : Nat), .i (col : Nat)])), (43, (true, [.ob (.mapIter (some bm3) ck x.2.2 ck)])), (100, wObj W ck), (101, lfObj fb n (notIn2 l row (c + 1))), (102, wObj x.1 x.2.1)])
            (fun x => leftW W x.2.2) (L, ck2, #[]) ⟨hokL, fun g => by rw [sumW_none]; rfl⟩ (weak_st ?_ ?_ rfl rfl) ?_
          · (repeat' (first | exact trivial | refine And.intro ?_ ?_)) <;> (first | rfl | skip)
          · (repeat' (first | exact trivial | refine And.intro ?_ ?_)) <;> (first | rfl | skip)
            show some (true, [AV.ob (.map (plArr _) _)]) = _
            rw [hlf]
          rintro ⟨M, ck3, seen⟩ ⟨hokM, hsumM⟩
          dsimp only at hokM hsumM ⊢
          refine AW_seq ?_
          refine AW_ops ?_
          refine step_ops ?_
          refine m_mnx (q := 100) (r := 43) (c0 := ck) rfl rfl (by decide) rfl (fun e he => ?_) (Nat.le_refl _) (fun hall2 => ?_) (fun e he hs => ?_)
          · obtain ⟨p, hp, rfl⟩ := wA_mem.1 he
            exact hok.old p hp
          · repeat (first | (refine step_ops ?_; (first | (refine m_mov (by conv => lhs; whnf) ?_) | (refine m_add rfl rfl ?_ ?_ ?_; (· omega); (· omega)) | (refine m_ext rfl rfl ?_))) | refine end_ops ?_ | refine AW_ops ?_ | (refine cond_f rfl ?_ ?_; (· rfl)) | refine AW_seq ?_ | refine norm_then ?_ | refine exit_then ?_ | refine norm_block ?_ | refine exit_round ?_ | refine AW_exit ?_ | refine exit_block ?_)
            refine next_round (c + 1, M, ck3) ⟨by omega, hokM, fun g => ?_⟩ (weak_st ?_ ?_ rfl rfl) (by show n - (c + 1) < n - c; omega)
            · rw [hsumM, hsumL, ← sumW_add]
              refine sumW_congr fun q hq => ?_
              have h3 : seen.contains q.b = true := hall2 q.ent (wA_mem.2 ⟨q, hq, rfl⟩)
              rw [if_pos h3, ← Nat.mul_add, sumN, Nat.add_assoc]
            · (repeat' (first | exact trivial | refine And.intro ?_ ?_)) <;> (first | rfl | skip)
            · (repeat' (first | exact trivial | refine And.intro ?_ ?_)) <;> (first | rfl | skip)
          · obtain ⟨p, hp, rfl⟩ := wA_mem.1 he
            have hpt := hok.lt p hp
            have hpt16 : p.t < 65536 := Nat.lt_of_lt_of_le hpt (Nat.pow_le_pow_right (by decide) (by omega : n ≤ 16))
            have hb2 : p.v ≤ 43046721 := by
              have h3 : p.v * 1 ≤ wE W fun _ => 1 := sumW_le (g := fun q => q.v * 1) hp
              omega
            repeat (first | (refine step_ops ?_; (refine m_ext rfl rfl ?_)) | refine end_ops ?_ | refine seq_ops ?_ | (refine cond_t rfl ?_ ?_; (· rfl)) | refine skip_then ?_ | refine AW_seq ?_ | refine norm_then ?_ | refine AW_block ?_)
            refine step_ops ?_
            refine m_ment (q := 100) (r := 43) (e := p.ent) (ka := .u p.t) (va := .i (p.v : Nat)) rfl rfl (by decide) rfl he (wA_born hok.born) rfl rfl ?_
            repeat (first | (refine step_ops ?_; (first | (refine m_mov (by conv => lhs; whnf) ?_) | (refine m_ext rfl rfl ?_))) | refine end_ops ?_ | refine seq_ops ?_)
            (refine step_ops ?_); (apply m_call (setHas_spec p.t c hpt16 (by omega))); (· repeat (first | exact lends_nil | (refine lends_cons ?_ ?_; (· exact lend_v))))
            by_cases hbit : p.t.testBit c = true
            · repeat (first | (refine step_ops ?_; (refine m_not rfl ?_)) | refine end_ops ?_ | (refine cond_f rfl ?_ ?_; (· (simp [*]; done))) | refine norm_block ?_ | refine AW_skip ?_)
              refine next_round (M, ck3, seen.push p.b) ⟨hokM, fun g => ?_⟩ (weak_st ?_ ?_ rfl rfl) (leftW_lt hp hs)
              · rw [hsumM, sumW_seen hok.born hp hs (fun q => q.v * addC (fb row) g q.t c)]
                have : addC (fb row) g p.t c = 0 := by simp [addC, hbit]
                rw [this]
                omega
              · (repeat' (first | exact trivial | refine And.intro ?_ ?_)) <;> (first | rfl | skip)
              · (repeat' (first | exact trivial | refine And.intro ?_ ?_)) <;> (first | rfl | skip)
            · have hbit : p.t.testBit c = false := by simpa using hbit
              have hT := insC_lt hpt hc8
              have hb4 : wv M (insC p.t c) ≤ 1000000000 := by
                have hM1 : wE M (fun _ => 1) ≤ 1000000000 := by
                  rw [hsumM, hsumL, ← sumW_add]
                  refine Nat.le_trans (sumW_mono (h := fun q => q.v * 1 * 20) fun q _ => ?_) ?_
                  · have h5 : sumN c (addC (fb row) (fun _ => 1) q.t) ≤ c * 1 := by
                      rw [← sumN_const]
                      exact sumN_le fun k _ => addC_one _ _ _
                    have h6 : addC (fb row) (fun _ => 1) q.t c ≤ 1 := addC_one _ _ _
                    have h7 : q.v * (1 + sumN c (addC (fb row) (fun _ => 1) q.t)) ≤ q.v * 9 := Nat.mul_le_mul_left _ (by omega)
                    have h8 : (if seen.contains q.b then q.v * addC (fb row) (fun _ => 1) q.t c else 0) ≤ q.v * 1 := by
                      split
                      · exact Nat.mul_le_mul_left _ h6
                      · omega
                    omega
                  · rw [sumW_mul W (fun q => q.v * 1) 20]
                    show wE W (fun _ => 1) * 20 ≤ _
                    omega
                exact Nat.le_trans (wv_le M _) hM1
              repeat (first | (refine step_ops ?_; (first | (refine m_mov (by conv => lhs; whnf) ?_) | (refine m_not rfl ?_))) | refine end_ops ?_ | refine AW_ops ?_ | (refine cond_t rfl ?_ ?_; (· (simp [*]; done))))
              (refine step_ops ?_); (apply m_call (setWith_spec p.t c hpt16 (by omega))); (· repeat (first | exact lends_nil | (refine lends_cons ?_ ?_; (· exact lend_v))))
              refine step_ops ?_
              refine m_wget (T := insC p.t c) hokM rfl rfl rfl ?_
              repeat (refine step_ops ?_; (first | (refine m_mov (by conv => lhs; whnf) ?_) | (refine m_add rfl rfl ?_ ?_ ?_; (· omega); (· omega))))
              refine step_ops ?_
              refine m_wput (r := 102) (T := insC p.t c) (m := p.v) hokM hT rfl rfl rfl ?_ fun M' ck4 hokM' hsumM' => ?_
              · show AV.i _ = AV.i _
                push_cast
                rfl
              repeat (first | refine end_ops ?_ | refine norm_block ?_)
              refine next_round (M', ck4, seen.push p.b) ⟨hokM', fun g => ?_⟩ (weak_st ?_ ?_ rfl rfl) (leftW_lt hp hs)
              · rw [hsumM', hsumM, sumW_seen hok.born hp hs (fun q => q.v * addC (fb row) g q.t c)]
                have : addC (fb row) g p.t c = g (insC p.t c) := by simp [addC, hbit, hf2]
                rw [this]
                omega
              · (repeat' (first | exact trivial | refine And.intro ?_ ?_)) <;> (first | rfl | skip)
              · (repeat' (first | exact trivial | refine And.intro ?_ ?_)) <;> (first | rfl | skip)
        · have hf2 : fb row c = false := by simpa using hf2
          repeat (first | (refine step_ops ?_; (first | (refine m_mov (by conv => lhs; whnf) ?_) | (refine m_add rfl rfl ?_ ?_ ?_; (· omega); (· omega)) | (refine m_not rfl ?_))) | refine end_ops ?_ | refine AW_ops ?_ | (refine cond_t rfl ?_ ?_; (· (simp [*]; done))) | refine norm_then ?_ | refine exit_then ?_ | refine AW_exit ?_ | refine exit_block ?_)
          refine next_round (c + 1, L, ck2) ⟨by omega, hokL, fun g => ?_⟩ (weak_st ?_ ?_ rfl rfl) (by show n - (c + 1) < n - c; omega)
          · rw [hsumL]
            refine sumW_congr fun q _ => ?_
            have : addC (fb row) g q.t c = 0 := by simp [addC, hf2]
            rw [sumN, this]
            rfl
          · (repeat' (first | exact trivial | refine And.intro ?_ ?_)) <;> (first | rfl | skip)
          · (repeat' (first | exact trivial | refine And.intro ?_ ?_)) <;> (first | rfl | skip)
            show some (lfObj fb n (notIn2 l row c)) = some (lfObj fb n (notIn2 l row (c + 1)))
            unfold lfObj
            rw [lfA_congr (E := notIn2 l row (c + 1))]
            rintro ⟨i, j⟩ _ _ hff
            simp only [notIn2]
            by_cases e1 : i = row
            · by_cases e2 : j = c
              · subst e1 e2
                rw [hf2] at hff
                cases hff
              · have : decide (j < c + 1) = decide (j < c) := decide_eq_decide.2 (by omega)
                simp [e1, this]
            · simp [e1]
      · have hce : c = n := by omega
        subst hce
        repeat (first | (refine step_ops ?_; (first | (refine m_mov (by conv => lhs; whnf) ?_) | (refine m_lss rfl rfl ?_))) | refine end_ops ?_ | refine seq_ops ?_ | (refine cond_f rfl ?_ ?_; (· (refine decide_eq_false ?_; omega))) | refine AW_seq ?_ | refine norm_then ?_ | refine exit_then ?_ | refine exit_round ?_ | refine AW_exit ?_ | refine exit_block ?_)
        refine AW_goto ?_
        have hnd' : (l ++ [row]).Nodup := by
          rw [List.nodup_append]
          exact ⟨hnd, by simp, fun a ha b hb e => hrl' (by simp at hb; rw [← hb, ← e]; exact ha)⟩
        have hlt' : ∀ r ∈ l ++ [row], r < c := fun r hr' => by
          rcases List.mem_append.1 hr' with h | h
          · exact hlt r h
          · simp at h; omega
        have hlen' := nodup_len hnd' hlt'
        have hinv : RkInv fb c (l ++ [row]) L ck2 := ⟨hnd', hlt', hokL, fun g => by
          rw [rowsR_snoc, ← hsum, hsumL]
          rfl⟩
        refine goto_block (goto_round (goto_block (goto_then ?_)))
        refine goto_jump (l ++ [row], L, ck2) hinv (weak_stN (fNm 100 102) [1, 100, 101] rfl (by decide) (by decide) ?_ ?_ rfl rfl) ?_
        · (repeat' (first | exact trivial | refine And.intro ?_ ?_)) <;> (first | rfl | skip)
        · (repeat' (first | exact trivial | refine And.intro ?_ ?_)) <;> (first | rfl | skip)
          show some (lfObj fb c (notIn2 l row c)) = some (lfObj fb c (notIn (l ++ [row])))
          unfold lfObj
          rw [lfA_congr (E := notIn (l ++ [row]))]
          rintro ⟨i, j⟩ _ hj _
          dsimp only at hj
          simp only [notIn2, notIn, List.contains_append, Bool.not_or]
          congr 1
          by_cases e1 : i = row
          · simp [e1, hj]
          · simp [e1]
        · intro m hm
          cases hm
          show c - (l ++ [row]).length < c - l.length
          rw [List.length_append, List.length_singleton] at hlen' ⊢
          omega
  · intro pass
    repeat (first | (refine step_ops ?_; (refine m_mmk ?_)) | refine seq_ops ?_)
    refine step_ops ?_
    refine m_mput rfl rfl rfl rfl (by simp) (by simp) fun _ => ?_
    repeat (first | (refine step_ops ?_; (first | (refine m_mov (by conv => lhs; whnf) ?_) | (apply m_ld_pt; (· rfl); (· rfl); (· rfl)) | (refine m_fa rfl ?_))) | refine end_ops ?_ | refine seq_ops ?_)
    refine step_ops ?_
    refine m_clone 101 (clonePlaces_spec (mkEs (posP fb n n)) (posP fb n n).length) (.inr ⟨false, rfl⟩) rfl (by decide) ?_
    repeat (first | (refine step_ops ?_; (refine m_mov (by conv => lhs; whnf) ?_)) | refine end_ops ?_ | refine AW_seq ?_)
    refine AW_label ?_
    refine norm_then ?_
    refine AW_weak (weak_stN (fNm 100 14) [1, 100, 101] rfl (by decide) (by decide) ?_ ?_ rfl rfl) (pass ([], [⟨0, 1, 0⟩], 1) ⟨by simp, by simp, ways_one n, fun g => by simp [wE, sumW, rowsR]⟩)
    · (repeat' (first | exact trivial | refine And.intro ?_ ?_)) <;> (first | rfl | skip)
    · (repeat' (first | exact trivial | refine And.intro ?_ ?_)) <;> (first | rfl | skip)
      show some (true, [AV.ob (.map (mkEs (posP fb n n)) _)]) = some (lfObj fb n (notIn []))
      rw [← lfA_all]
      rfl
end Go.Proofs.YtngfogpbljconaaDoor
namespace Go.Am
variable [Go.Am.CodeBlk]
variable {P : Program} {own : Bool} {s : AS} {K : AS → Prop} {d : Option Nat} {x y : Opd} {a k : Nat}
theorem m_shri (hx : s.ev x = .i (a : Nat)) (hy : s.ev y = .i (k : Nat)) (hk : k < 64) (kk : K (s.put d (.i (a >>> k : Nat)))) : aop1 P own ⟨d, .bin .shr x y, none⟩ s K := by
  refine ⟨_, _, _, hx, hy, ?_, kk⟩
  have h1 : ¬ ((k : Nat) : Int) < 0 := by omega
  have h2 : min ((k : Nat) : Int).toNat IntKind.i64.bits = k := by show min _ 64 = k; omega
  show (if ((k : Nat) : Int) < 0 then none else some (Value.int .i64 ((a : Int).fdiv (2 ^ (min ((k : Nat) : Int).toNat IntKind.i64.bits))))) = _
  rw [if_neg h1, h2, Nat.shiftRight_eq_div_pow]
  congr 2
  rw [Int.fdiv_eq_ediv_of_nonneg _ (by exact Int.le_of_lt (Int.pow_pos (by decide)))]
  push_cast
  rfl
theorem m_shli (hx : s.ev x = .i 1) (hy : s.ev y = .i (k : Nat)) (hk : k < 62) (kk : K (s.put d (.i (2 ^ k : Nat)))) : aop1 P own ⟨d, .bin .shl x y, none⟩ s K := by
  refine ⟨_, _, _, hx, hy, ?_, kk⟩
  have h1 : ¬ ((k : Nat) : Int) < 0 := by omega
  have h2 : min ((k : Nat) : Int).toNat IntKind.i64.bits = k := by show min _ 64 = k; omega
  show (if ((k : Nat) : Int) < 0 then none else some (Value.int .i64 (IntKind.i64.wrap ((1 : Int) * 2 ^ (min ((k : Nat) : Int).toNat IntKind.i64.bits))))) = _
  rw [if_neg h1, h2]
  congr 2
  have h3 : 2 ^ k < 2 ^ 62 := Nat.pow_lt_pow_right (by decide) hk
  have h62 : (2 : Nat) ^ 62 = 4611686018427387904 := by decide
  have h4 : ((1 : Int) * (2 : Int) ^ k) = ((2 ^ k : Nat) : Int) := by rw [Int.one_mul]; push_cast; rfl
  rw [h4, IntKind.wrap_i64]
  generalize 2 ^ k = z at *
  omega
theorem m_andi1 (hx : s.ev x = .i (a : Nat)) (hy : s.ev y = .i 1) (ha : a < 4611686018427387904) (kk : K (s.put d (.i (a &&& 1 : Nat)))) : aop1 P own ⟨d, .bin .and x y, none⟩ s K := by
  refine ⟨_, _, _, hx, hy, ?_, kk⟩
  show some (Value.int .i64 (IntKind.i64.wrap ((BitVec.ofInt IntKind.i64.bits (a : Int) &&& BitVec.ofInt IntKind.i64.bits 1).toNat : Int))) = _
  have h1 : (BitVec.ofInt IntKind.i64.bits (a : Int)).toNat = a := by
    show (BitVec.ofInt 64 (a : Int)).toNat = a
    rw [BitVec.ofInt_natCast, BitVec.toNat_ofNat]
    omega
  have h2 : (BitVec.ofInt IntKind.i64.bits 1).toNat = 1 := by decide
  have h3 : a &&& 1 ≤ 1 := Nat.and_le_right
  have h5 : IntKind.i64.wrap ((a &&& 1 : Nat) : Int) = ((a &&& 1 : Nat) : Int) := by
    rw [IntKind.wrap_i64]
    generalize a &&& 1 = z at *
    omega
  rw [BitVec.toNat_and, h1, h2, h5]
end Go.Am
namespace Go.Am
variable [Go.Am.CodeBlk]
theorem m_ori {P : Program} {own : Bool} {s : AS} {K : AS → Prop} {d : Option Nat} {x y : Opd} {a b z : Nat} (hx : s.ev x = .i (a : Nat)) (hy : s.ev y = .i (b : Nat)) (ha : a < 65536) (hb : b < 65536) (hz : a ||| b = z) (kk : K (s.put d (.i (z : Nat)))) : aop1 P own ⟨d, .bin .or x y, none⟩ s K := by
  subst hz
  refine ⟨_, _, _, hx, hy, ?_, kk⟩
  show some (Value.int .i64 (IntKind.i64.wrap ((BitVec.ofInt IntKind.i64.bits (a : Int) ||| BitVec.ofInt IntKind.i64.bits (b : Int)).toNat : Int))) = _
  have h1 : ∀ {c : Nat}, c < 65536 → (BitVec.ofInt IntKind.i64.bits (c : Int)).toNat = c := by
    intro c hc
    show (BitVec.ofInt 64 (c : Int)).toNat = c
    rw [BitVec.ofInt_natCast, BitVec.toNat_ofNat]
    omega
  have h3 := or16_lt ha hb
  have h5 : IntKind.i64.wrap ((a ||| b : Nat) : Int) = ((a ||| b : Nat) : Int) := by
    rw [IntKind.wrap_i64]
    generalize a ||| b = z at *
    omega
  rw [BitVec.toNat_or, h1 ha, h1 hb, h5]
theorem m_andz {P : Program} {own : Bool} {s : AS} {K : AS → Prop} {d : Option Nat} {x y : Opd} {a z : Nat} (hx : s.ev x = .i (a : Nat)) (hy : s.ev y = .i 1) (ha : a < 4611686018427387904) (hz : a &&& 1 = z) (kk : K (s.put d (.i (z : Nat)))) : aop1 P own ⟨d, .bin .and x y, none⟩ s K := by
  subst hz
  exact m_andi1 hx hy ha kk
theorem m_shlz {P : Program} {own : Bool} {s : AS} {K : AS → Prop} {d : Option Nat} {x y : Opd} {k z : Nat} (hx : s.ev x = .i 1) (hy : s.ev y = .i (k : Nat)) (hk : k < 62) (hz : 2 ^ k = z) (kk : K (s.put d (.i (z : Nat)))) : aop1 P own ⟨d, .bin .shl x y, none⟩ s K := by
  subst hz
  exact m_shli hx hy hk kk
theorem bitz {a k : Nat} (h : a.testBit k = false) : (a >>> k) &&& 1 = 0 := by
  have := bit_and a k
  have h1 : (a >>> k) &&& 1 ≤ 1 := Nat.and_le_right
  rw [h] at this
  have := of_decide_eq_false this
  omega
theorem bit1 {a k : Nat} (h : a.testBit k = true) : (a >>> k) &&& 1 = 1 := by
  have := bit_and a k
  rw [h] at this
  exact of_decide_eq_true this
/-- A list by its numbers. -/
def rgL (n : Nat) (f : Nat → Nat) : List Int := (List.range (n + 1)).map fun k => ((f k : Nat) : Int)
theorem rgL_len (n : Nat) (f : Nat → Nat) : (rgL n f).length = n + 1 := by simp [rgL]
theorem rgL_get {n k : Nat} (f : Nat → Nat) (h : k < n + 1) : (rgL n f).getD k 0 = (f k : Int) := by simp [rgL, h]
theorem rgL_congr {n : Nat} {f g : Nat → Nat} (h : ∀ k, k < n + 1 → f k = g k) : rgL n f = rgL n g := by
  refine List.map_congr_left fun k hk => ?_
  rw [h k (List.mem_range.1 hk)]
theorem rgL_set {n k : Nat} {f : Nat → Nat} (m : Nat) (h : k < n + 1) : (rgL n f).set k ((rgL n f).getD k 0 + (m : Nat)) = rgL n fun j => f j + if j = k then m else 0 := by
  apply List.ext_getElem?
  intro j
  rw [List.getElem?_set, rgL_get f h, rgL_len]
  by_cases e : k = j
  · subst e
    simp [rgL, h]
  · rw [if_neg e]
    by_cases hj : j < n + 1
    · have : ¬ j = k := fun e2 => e e2.symm
      simp [rgL, hj, this]
    · simp [rgL, hj]
theorem rgL_zero (n : Nat) : List.replicate (n + 1) 0 = rgL n fun _ => 0 := by
  unfold rgL
  symm
  rw [List.eq_replicate_iff]
  refine ⟨by simp, fun b hb => ?_⟩
  obtain ⟨k, _, rfl⟩ := List.mem_map.1 hb
  rfl
theorem zerosL (n : Nat) : (List.replicate (n + 1) (List.map AV.v [Value.int .i64 0])).flatten = (rgL n fun _ => 0).map AV.i := by
  rw [← rgL_zero]
  generalize n + 1 = k
  induction k with
  | zero => rfl
  | succ k ih => rw [List.replicate_succ, List.flatten_cons, ih]; rfl
theorem m_mk0 {P : Program} {own : Bool} {s : AS} {K : AS → Prop} {x y : Opd} {r bs n : Nat} (hx : s.ev x = .i ((n + 1 : Nat) : Int)) (hy : s.ev y = .i ((n + 1 : Nat) : Int)) (h1 : (bs : Int) * ((n + 1 : Nat) : Int) ≤ 281474976710656) (h2 : ((n + 1 : Nat) : Int) ≤ 9223372036854775807)
    (k : K (((s.kill r).mem r (true, (rgL n fun _ => 0).map AV.i)).put (some r) (.sl r 1 0 (n + 1)))) : aop1 P own ⟨some r, .mk 1 bs [.int .i64 0] x y, none⟩ s K := by
  refine m_mk hx hy h1 h2 ?_
  rw [zerosL]
  exact k
theorem sumN_le' {f : Nat → Nat} {b n : Nat} (h : ∀ c, c < n → f c ≤ b) : sumN n f ≤ n * b := by
  rw [← sumN_const]
  exact sumN_le h
end Go.Am
namespace Go.Proofs.YtngfogpbljconaaDoor
variable [Go.Am.CodeBlk]
open Go.Am
attribute [local irreducible] AW Outs Weak Lends Lend Sp aops atree aop1 Then Round InBlock Done
attribute [local irreducible] SpH SpX DoneH DoneX
def rgR (n : Nat) (f : Nat → Nat) : AV := .ro true 1 ((rgL n f).map AV.i) (n + 1)
/-- What a column adds to a number of rooks. -/
def rkT (B : List UInt8) (m S k j : Nat) : Nat := if fbB B (sdB B - (m + 1)) j && !S.testBit j then (match k with | 0 => 0 | q + 1 => rkG (fbB B) (sdB B) m (insC S j) q) else 0
theorem rkG_le9 {B : List UInt8} (h : GoodBd B) {m : Nat} (hm : m ≤ 8) (S k : Nat) : rkG (fbB B) (sdB B) m S k ≤ 43046721 := by
  have hsd := good_sd h
  exact Nat.le_trans (rkG_le m S k) (Nat.le_trans (Nat.pow_le_pow_left (by omega : sdB B + 1 ≤ 9) _) (Nat.le_trans (Nat.pow_le_pow_right (by omega) hm) (by decide)))
theorem rkT_le9 {B : List UInt8} (h : GoodBd B) {m : Nat} (hm : m ≤ 8) (S k j : Nat) : rkT B m S k j ≤ 43046721 := by
  unfold rkT
  split
  · cases k with
    | zero => exact Nat.zero_le _
    | succ q => exact rkG_le9 h hm _ q
  · omega
/-- Numbers of rooks while a column is added. -/
def rkQ (B : List UInt8) (m S j q k : Nat) : Nat := rkG (fbB B) (sdB B) m S k + sumN j (rkT B m S k) + if 1 ≤ k ∧ k ≤ q then rkG (fbB B) (sdB B) m (insC S j) (k - 1) else 0
theorem rkQ_0 (B : List UInt8) (m S j : Nat) : rgL (sdB B) (rkQ B m S j 0) = rgL (sdB B) fun k => rkG (fbB B) (sdB B) m S k + sumN j (rkT B m S k) :=
  rgL_congr fun k _ => by rw [rkQ, if_neg (by omega), Nat.add_zero]
theorem rkQ_skip {B : List UInt8} {m S j q : Nat} (h : rkG (fbB B) (sdB B) m (insC S j) q = 0) : rgL (sdB B) (rkQ B m S j q) = rgL (sdB B) (rkQ B m S j (q + 1)) :=
  rgL_congr fun k _ => by
    unfold rkQ
    by_cases e : k = q + 1
    · subst e
      rw [if_neg (by omega), if_pos (by omega), Nat.add_sub_cancel, h]
    · by_cases h1 : 1 ≤ k ∧ k ≤ q
      · rw [if_pos h1, if_pos (by omega)]
      · rw [if_neg h1, if_neg (by omega)]
theorem rkQ_step (B : List UInt8) (m S j q k : Nat) : rkQ B m S j q k + (if k = q + 1 then rkG (fbB B) (sdB B) m (insC S j) q else 0) = rkQ B m S j (q + 1) k := by
  unfold rkQ
  by_cases e : k = q + 1
  · subst e
    rw [if_neg (by omega), if_pos rfl, if_pos (by omega), Nat.add_sub_cancel]
    omega
  · rw [if_neg e]
    by_cases h1 : 1 ≤ k ∧ k ≤ q
    · rw [if_pos h1, if_pos (by omega)]; rfl
    · rw [if_neg h1, if_neg (by omega)]
theorem rkQ_end {B : List UInt8} {m S j row : Nat} (hr : sdB B - (m + 1) = row) (hf : fbB B row j = true) (hb : S.testBit j = false) : rgL (sdB B) (rkQ B m S j (sdB B + 1)) = rgL (sdB B) fun k => rkG (fbB B) (sdB B) m S k + sumN (j + 1) (rkT B m S k) :=
  rgL_congr fun k hk => by
    unfold rkQ
    rw [sumN, ← Nat.add_assoc]
    congr 1
    have : (fbB B (sdB B - (m + 1)) j && !S.testBit j) = true := by rw [hr, hf, hb]; rfl
    unfold rkT
    rw [if_pos this]
    cases k with
    | zero => rw [if_neg (by omega)]
    | succ k => rw [if_pos (by omega)]; rfl
theorem rkQ_le {B : List UInt8} (h : GoodBd B) {m S j q k : Nat} (hm : m ≤ 8) (hj : j ≤ 8) : rkQ B m S j q k ≤ 1000000000 := by
  have h1 := rkG_le9 h hm S k
  have h2 := sumN_le' (f := rkT B m S k) (b := 43046721) (n := j) fun c _ => rkT_le9 h hm S k c
  have h3 : j * 43046721 ≤ 8 * 43046721 := Nat.mul_le_mul_right _ hj
  have h4 := rkG_le9 h hm (insC S j) (k - 1)
  unfold rkQ
  split <;> omega
theorem bdRooks_spec (B : List UInt8) (h : GoodBd B) (hB : B.length ≤ 1048576) : ∀ m row S, row + m = sdB B → S < 2 ^ sdB B → Sp Tryd.prog 46 [str B, .i (row : Nat), .i (S : Nat)] (rgR (sdB B) (rkG (fbB B) (sdB B) m S)) := by
  have hsd := good_sd h
  intro m
  induction m with
  | zero =>
    intro row S hrow hS
    unfold rgR
    have hrow' : row = sdB B := by omega
    have l0 := rgL_len (sdB B) (fun _ => 0)
    refine spec_of Tryd.func46 rfl cc46 rfl ?_
    unfold ac46
    repeat (first | (refine step_ops ?_; (first | (refine m_mov (by conv => lhs; whnf) ?_) | (refine m_nils ?_))) | refine end_ops ?_ | refine seq_ops ?_)
    (refine step_ops ?_); (apply m_call (bdSide_spec B hB)); (· repeat (first | exact lends_nil | (refine lends_cons ?_ ?_; (· exact lend_v))))
    repeat (first | (refine step_ops ?_; (first | (refine m_mov (by conv => lhs; whnf) ?_) | (refine m_add rfl rfl ?_ ?_ ?_; (· omega); (· omega)))) | refine end_ops ?_ | refine seq_ops ?_)
    refine step_ops ?_
    refine m_mk0 (n := sdB B) rfl rfl (by omega) (by omega) ?_
    repeat (first | (refine step_ops ?_; (first | (refine m_mov (by conv => lhs; whnf) ?_) | (refine m_eql rfl rfl ?_) | (refine m_idx_sl rfl rfl ?_ ?_ ?_; (· omega); (· omega)) | (apply m_st; (· rfl); (· rfl); (· rfl); (· first | omega | (simp; done) | (simp; omega)); (· rfl)))) | refine end_ops ?_ | refine seq_ops ?_ | (refine cond_t rfl ?_ ?_; (· (refine decide_eq_true ?_; omega))) | refine AW_seq ?_ | refine AW_ret ?_ | refine ret_done ?_ | refine ret_then ?_)
    refine outs_sl (z := 1) (n := sdB B + 1) (cs := (rgL (sdB B) (rkG (fbB B) (sdB B) 0 S)).map AV.i) ?_ (by simp [rgL]) (allv_ints _)
    show some (true, List.set (List.map AV.i (rgL (sdB B) fun _ => 0)) 0 (AV.i 1)) = _
    rw [← List.map_set]
    congr 3
    have e := rgL_set (n := sdB B) (k := 0) (f := fun _ => 0) 1 (by omega)
    rw [rgL_get _ (by omega)] at e
    refine e.trans (rgL_congr fun k _ => ?_)
    rw [rkG]
    omega
  | succ m ih =>
    intro row S hrow hS
    have hm8 : m ≤ 8 := by omega
    have hS512 : S < 512 := Nat.lt_of_lt_of_le hS (Nat.pow_le_pow_right (by decide) (by omega : sdB B ≤ 9))
    have hrowm : sdB B - (m + 1) = row := by omega
    unfold rgR
    refine spec_of Tryd.func46 rfl cc46 rfl ?_
    unfold ac46
    repeat (first | (refine step_ops ?_; (first | (refine m_mov (by conv => lhs; whnf) ?_) | (refine m_nils ?_))) | refine end_ops ?_ | refine seq_ops ?_)
    (refine step_ops ?_); (apply m_call (bdSide_spec B hB)); (· repeat (first | exact lends_nil | (refine lends_cons ?_ ?_; (· exact lend_v))))
    repeat (first | (refine step_ops ?_; (first | (refine m_mov (by conv => lhs; whnf) ?_) | (refine m_add rfl rfl ?_ ?_ ?_; (· omega); (· omega)))) | refine end_ops ?_ | refine seq_ops ?_)
    refine step_ops ?_
    refine m_mk0 (n := sdB B) rfl rfl (by omega) (by omega) ?_
    repeat (first | (refine step_ops ?_; (first | (refine m_mov (by conv => lhs; whnf) ?_) | (refine m_eql rfl rfl ?_) | (refine m_add rfl rfl ?_ ?_ ?_; (· omega); (· omega)))) | refine end_ops ?_ | refine seq_ops ?_ | (refine cond_f rfl ?_ ?_; (· (refine decide_eq_false ?_; omega))) | refine skip_then ?_ | refine AW_seq ?_)
    have e1 := ih (row + 1) S (by omega) hS
    unfold rgR at e1
    (refine step_ops ?_); (apply m_call (e1)); (· repeat (first | exact lends_nil | (refine lends_cons ?_ ?_; (· exact lend_v))))
    repeat (first | (refine step_ops ?_; (first | (refine m_mov (by conv => lhs; whnf) ?_) | (refine m_len_ro rfl ?_))) | refine end_ops ?_ | refine AW_block ?_)
    refine AW_loop (α := Nat) (fun k => k ≤ sdB B + 1) (fun k => st [(0, str B), (1, .i (row : Nat)), (2, .i (S : Nat)), (7, .i (sdB B : Nat)), (8, .sl 18 1 0 (sdB B + 1)), (29, .ro true 1 ((rgL (sdB B) (rkG (fbB B) (sdB B) m S)).map AV.i) (sdB B + 1)), (30, .i (sdB B + 1 : Nat)), (31, .i (k : Nat))]
        [(18, (true, (rgL (sdB B) fun j => if j < k then rkG (fbB B) (sdB B) m S j else 0).map AV.i))]) (fun k => sdB B + 1 - k) 0 (by omega) (weak_st ?_ ?_ rfl rfl) ?_
    · (repeat' (first | exact trivial | refine And.intro ?_ ?_)) <;> (first | rfl | skip)
    · (repeat' (first | exact trivial | refine And.intro ?_ ?_)) <;> (first | rfl | skip)
    rintro k hk
    by_cases hk1 : k < sdB B + 1
    · have g1 := rgL_get (rkG (fbB B) (sdB B) m S) hk1
      have g2 := rgL_get (fun j => if j < k then rkG (fbB B) (sdB B) m S j else 0) hk1
      rw [if_neg (by omega)] at g2
      have l1 := rgL_len (sdB B) (rkG (fbB B) (sdB B) m S)
      have l2 := rgL_len (sdB B) (fun j => if j < k then rkG (fbB B) (sdB B) m S j else 0)
      have b1 := rkG_le9 h hm8 S k
      have b2 : 0 ≤ (rgL (sdB B) (rkG (fbB B) (sdB B) m S)).getD k 0 ∧ (rgL (sdB B) (rkG (fbB B) (sdB B) m S)).getD k 0 ≤ 43046721 := by rw [g1]; omega
      have b3 : (rgL (sdB B) (fun j => if j < k then rkG (fbB B) (sdB B) m S j else 0)).getD k 0 = 0 := by rw [g2]; rfl
      repeat (first | (refine step_ops ?_; (first | (refine m_mov (by conv => lhs; whnf) ?_) | (refine m_lss rfl rfl ?_) | (refine m_add rfl rfl ?_ ?_ ?_; (· omega); (· omega)) | (refine m_idx1_ro rfl rfl ?_ ?_; (· omega)) | (refine m_idx1_sl rfl rfl ?_ ?_; (· omega)) | (refine m_ld_rpi rfl ?_ ?_; (· omega)) | (refine m_ld_pti rfl (by rfl) ?_ ?_; (· first | omega | (simp; omega))) | (apply m_st; (· rfl); (· rfl); (· rfl); (· first | omega | (simp; done) | (simp; omega)); (· rfl)))) | refine end_ops ?_ | refine seq_ops ?_ | refine AW_ops ?_ | (refine cond_t rfl ?_ ?_; (· (refine decide_eq_true ?_; omega))) | refine skip_then ?_ | refine AW_seq ?_ | refine norm_then ?_ | refine AW_block ?_ | refine norm_block ?_)
      refine next_round (k + 1) (by omega) (weak_st ?_ ?_ rfl rfl) (by omega)
      · (repeat' (first | exact trivial | refine And.intro ?_ ?_)) <;> (first | rfl | skip)
      · (repeat' (first | exact trivial | refine And.intro ?_ ?_)) <;> (first | rfl | skip)
        show some (true, List.set (List.map AV.i _) k (AV.i _)) = _
        rw [← List.map_set, g1, rgL_set _ hk1]
        congr 3
        refine rgL_congr fun j _ => ?_
        by_cases ej : j = k
        · subst ej; simp
        · by_cases hj : j < k
          · simp [ej, hj, show j < k + 1 by omega]
          · simp [ej, hj, show ¬ j < k + 1 by omega]
    · have hke : k = sdB B + 1 := by omega
      subst hke
      rw [show (rgL (sdB B) fun j => if j < sdB B + 1 then rkG (fbB B) (sdB B) m S j else 0) = rgL (sdB B) (rkG (fbB B) (sdB B) m S) from rgL_congr fun j hj => if_pos hj]
      repeat (first | (refine step_ops ?_; (first | (refine m_mov (by conv => lhs; whnf) ?_) | (refine m_lss rfl rfl ?_))) | refine end_ops ?_ | refine seq_ops ?_ | (refine cond_f rfl ?_ ?_; (· (refine decide_eq_false ?_; omega))) | refine AW_seq ?_ | refine norm_then ?_ | refine exit_then ?_ | refine AW_block ?_ | refine exit_round ?_ | refine AW_exit ?_ | refine exit_block ?_)
      refine AW_loop (α := Nat) (fun j => j ≤ sdB B) (fun j => st [(0, str B), (1, .i (row : Nat)), (2, .i (S : Nat)), (7, .i (sdB B : Nat)), (8, .sl 18 1 0 (sdB B + 1)), (11, .i (j : Nat))]
        [(18, (true, (rgL (sdB B) fun k => rkG (fbB B) (sdB B) m S k + sumN j (rkT B m S k)).map AV.i))]) (fun j => sdB B - j) 0 (by omega) (weak_st ?_ ?_ rfl rfl) ?_
      · (repeat' (first | exact trivial | refine And.intro ?_ ?_)) <;> (first | rfl | skip)
      · (repeat' (first | exact trivial | refine And.intro ?_ ?_)) <;> (first | rfl | skip)
      rintro j hj
      by_cases hj1 : j < sdB B
      · have hsh : S >>> j < 512 := Nat.lt_of_le_of_lt (Nat.shiftRight_le S j) hS512
        have skipT : (∀ k, rkT B m S k j = 0) → (rgL (sdB B) fun k => rkG (fbB B) (sdB B) m S k + sumN j (rkT B m S k)) = rgL (sdB B) fun k => rkG (fbB B) (sdB B) m S k + sumN (j + 1) (rkT B m S k) := fun h0 =>
          rgL_congr fun k _ => by rw [sumN, h0 k, Nat.add_zero]
        by_cases hbit : S.testBit j = true
        · have hz := bit1 hbit
          repeat (first | (refine step_ops ?_; (first | (refine m_mov (by conv => lhs; whnf) ?_) | (refine m_lss rfl rfl ?_))) | refine end_ops ?_ | refine seq_ops ?_ | (refine cond_t rfl ?_ ?_; (· (refine decide_eq_true ?_; omega))) | refine skip_then ?_ | refine AW_seq ?_ | refine AW_block ?_)
          refine step_ops ?_
          refine m_shri (a := S) (k := j) rfl rfl (by omega) ?_
          refine step_ops ?_
          refine m_andz (a := S >>> j) (z := 1) rfl rfl (by omega) hz ?_
          repeat (first | (refine step_ops ?_; (first | (first | (refine m_mov (by conv => lhs; whnf) ?_) | (refine m_eql rfl rfl ?_) | (refine m_add rfl rfl ?_ ?_ ?_; (· omega); (· omega)) | (refine m_pick_f rfl ?_ (by conv => lhs; whnf) ?_; (· rfl))) | (refine g_noT rfl ?_ ?_; (· rfl)))) | refine end_ops ?_ | refine AW_ops ?_ | (refine cond_f rfl ?_ ?_; (· rfl)) | refine norm_then ?_ | refine norm_block ?_ | refine AW_skip ?_)
          refine next_round (j + 1) (by omega) (weak_st ?_ ?_ rfl rfl) (by omega)
          · (repeat' (first | exact trivial | refine And.intro ?_ ?_)) <;> (first | rfl | skip)
          · (repeat' (first | exact trivial | refine And.intro ?_ ?_)) <;> (first | rfl | skip)
            show some (true, List.map AV.i _) = some (true, List.map AV.i _)
            rw [skipT fun k => by simp [rkT, hbit]]
        · have hbit : S.testBit j = false := by simpa using hbit
          have hz := bitz hbit
          repeat (first | (refine step_ops ?_; (first | (refine m_mov (by conv => lhs; whnf) ?_) | (refine m_lss rfl rfl ?_))) | refine end_ops ?_ | refine seq_ops ?_ | (refine cond_t rfl ?_ ?_; (· (refine decide_eq_true ?_; omega))) | refine skip_then ?_ | refine AW_seq ?_ | refine AW_block ?_)
          refine step_ops ?_
          refine m_shri (a := S) (k := j) rfl rfl (by omega) ?_
          refine step_ops ?_
          refine m_andz (a := S >>> j) (z := 0) rfl rfl (by omega) hz ?_
          repeat (refine step_ops ?_; ((try (refine g_yes rfl ?_ ?_; (· rfl))); (first | (refine m_mov (by conv => lhs; whnf) ?_) | (refine m_eql rfl rfl ?_))))
          (refine step_ops ?_); (refine g_yes rfl ?_ ?_; (· first | (rfl) | (fail)); (apply m_call (bdAt_spec B h row j (by omega) hj1))); (· repeat (first | exact lends_nil | (refine lends_cons ?_ ?_; (· exact lend_v))))
          by_cases hf : fbB B row j = true
          · repeat (first | (refine step_ops ?_; (first | (refine m_mov (by conv => lhs; whnf) ?_) | (refine m_add rfl rfl ?_ ?_ ?_; (· omega); (· omega)) | (refine m_pick_t rfl ?_ (by conv => lhs; whnf) ?_; (· rfl)))) | refine end_ops ?_ | refine seq_ops ?_ | (refine cond_t rfl ?_ ?_; (· assumption)))
            have hT := insC_lt hS hj1
            have hT512 : insC S j < 512 := Nat.lt_of_lt_of_le hT (Nat.pow_le_pow_right (by decide) (by omega : sdB B ≤ 9))
            have h2j : 2 ^ j < 512 := Nat.lt_of_lt_of_le (Nat.pow_lt_pow_right (by decide) (by omega : j < 9)) (by decide)
            refine step_ops ?_
            refine m_shlz (k := j) (z := 2 ^ j) rfl rfl (by omega) rfl ?_
            refine step_ops ?_
            refine m_ori (a := S) (b := 2 ^ j) (z := insC S j) rfl rfl (by omega) (by omega) (by unfold insC; rw [Nat.one_shiftLeft]) ?_
            have e2 := ih (row + 1) (insC S j) (by omega) hT
            unfold rgR at e2
            (refine step_ops ?_); (apply m_call (e2)); (· repeat (first | exact lends_nil | (refine lends_cons ?_ ?_; (· exact lend_v))))
            repeat (first | (refine step_ops ?_; (first | (refine m_mov (by conv => lhs; whnf) ?_) | (refine m_len_ro rfl ?_))) | refine end_ops ?_ | refine AW_block ?_)
            refine AW_loop (α := Nat) (fun q => q ≤ sdB B + 1) (fun q => st [(0, str B), (1, .i (row : Nat)), (2, .i (S : Nat)), (7, .i (sdB B : Nat)), (8, .sl 18 1 0 (sdB B + 1)), (11, .i (j : Nat)),
                (67, .ro true 1 ((rgL (sdB B) (rkG (fbB B) (sdB B) m (insC S j))).map AV.i) (sdB B + 1)), (68, .i (sdB B + 1 : Nat)), (69, .i (q : Nat))]
              [(18, (true, (rgL (sdB B) (rkQ B m S j q)).map AV.i))]) (fun q => sdB B + 1 - q) 0 (by omega) (weak_st ?_ ?_ rfl rfl) ?_
            · (repeat' (first | exact trivial | refine And.intro ?_ ?_)) <;> (first | rfl | skip)
            · (repeat' (first | exact trivial | refine And.intro ?_ ?_)) <;> (first | rfl | skip)
              show some (true, List.map AV.i _) = some (true, List.map AV.i _)
              rw [rkQ_0]
            rintro q hq
            by_cases hq1 : q < sdB B + 1
            · have g1 := rgL_get (rkG (fbB B) (sdB B) m (insC S j)) hq1
              have l1 := rgL_len (sdB B) (rkG (fbB B) (sdB B) m (insC S j))
              have l2 := rgL_len (sdB B) (rkQ B m S j q)
              have b1 := rkG_le9 h hm8 (insC S j) q
              by_cases hv : 0 < rkG (fbB B) (sdB B) m (insC S j) q
              · have hqn : q < sdB B := by
                  rcases Nat.lt_or_ge q (sdB B) with h3 | h3
                  · exact h3
                  · have := rkG_big (fb := fbB B) (n := sdB B) m (insC S j) q (by omega)
                    omega
                have g2 := rgL_get (n := sdB B) (k := q + 1) (rkQ B m S j q) (by omega)
                have b2 := rkQ_le h hm8 (S := S) (j := j) (q := q) (k := q + 1) (by omega)
                have b3 : 0 ≤ (rgL (sdB B) (rkQ B m S j q)).getD (q + 1) 0 ∧ (rgL (sdB B) (rkQ B m S j q)).getD (q + 1) 0 ≤ 1000000000 := by rw [g2]; omega
                have b4 : 0 < (rgL (sdB B) (rkG (fbB B) (sdB B) m (insC S j))).getD q 0 ∧ (rgL (sdB B) (rkG (fbB B) (sdB B) m (insC S j))).getD q 0 ≤ 43046721 := by rw [g1]; omega
                have hq' : 0 + ((q : Int) + 1).toNat * 1 = q + 1 := by omega
                have b5 : 0 ≤ (rgL (sdB B) (rkQ B m S j q)).getD (0 + ((q : Int) + 1).toNat * 1) 0 ∧ (rgL (sdB B) (rkQ B m S j q)).getD (0 + ((q : Int) + 1).toNat * 1) 0 ≤ 1000000000 := by rw [hq']; exact b3
                repeat (first | (refine step_ops ?_; (first | (refine m_mov (by conv => lhs; whnf) ?_) | (refine m_lss rfl rfl ?_) | (refine m_gtr rfl rfl ?_) | (refine m_add rfl rfl ?_ ?_ ?_; (· omega); (· omega)) | (refine m_idx1_ro rfl rfl ?_ ?_; (· omega)) | (refine m_idx_sl rfl rfl ?_ ?_ ?_; (· omega); (· omega)) | (refine m_ld_rpi rfl ?_ ?_; (· omega)) | (refine m_ld_pti rfl (by rfl) ?_ ?_; (· first | omega | (simp; omega))) | (apply m_st; (· rfl); (· rfl); (· rfl); (· first | omega | (simp; done) | (simp; omega)); (· rfl)))) | refine end_ops ?_ | refine seq_ops ?_ | refine AW_ops ?_ | (refine cond_t rfl ?_ ?_; (· (refine decide_eq_true ?_; omega))) | refine skip_then ?_ | refine AW_seq ?_ | refine norm_then ?_ | refine AW_block ?_ | refine norm_block ?_)
                refine next_round (q + 1) (by omega) (weak_st ?_ ?_ rfl rfl) (by omega)
                · (repeat' (first | exact trivial | refine And.intro ?_ ?_)) <;> (first | rfl | skip)
                · (repeat' (first | exact trivial | refine And.intro ?_ ?_)) <;> (first | rfl | skip)
                  show some (true, List.set (List.map AV.i _) _ (AV.i _)) = some (true, List.map AV.i _)
                  rw [← List.map_set, hq', g1, rgL_set _ (by omega)]
                  congr 3
                  refine rgL_congr fun k _ => rkQ_step B m S j q k
              · have b4 : (rgL (sdB B) (rkG (fbB B) (sdB B) m (insC S j))).getD q 0 = 0 := by rw [g1]; omega
                repeat (first | (refine step_ops ?_; (first | (refine m_mov (by conv => lhs; whnf) ?_) | (refine m_lss rfl rfl ?_) | (refine m_gtr rfl rfl ?_) | (refine m_add rfl rfl ?_ ?_ ?_; (· omega); (· omega)) | (refine m_idx1_ro rfl rfl ?_ ?_; (· omega)) | (refine m_ld_rpi rfl ?_ ?_; (· omega)))) | refine end_ops ?_ | refine seq_ops ?_ | refine AW_ops ?_ | (refine cond_t rfl ?_ ?_; (· (refine decide_eq_true ?_; omega))) | (refine cond_f rfl ?_ ?_; (· (refine decide_eq_false ?_; omega))) | refine skip_then ?_ | refine AW_seq ?_ | refine norm_then ?_ | refine AW_block ?_ | refine norm_block ?_ | refine AW_skip ?_)
                refine next_round (q + 1) (by omega) (weak_st ?_ ?_ rfl rfl) (by omega)
                · (repeat' (first | exact trivial | refine And.intro ?_ ?_)) <;> (first | rfl | skip)
                · (repeat' (first | exact trivial | refine And.intro ?_ ?_)) <;> (first | rfl | skip)
                  show some (true, List.map AV.i _) = some (true, List.map AV.i _)
                  rw [rkQ_skip (by omega)]
            · have hqe : q = sdB B + 1 := by omega
              subst hqe
              rw [rkQ_end hrowm hf hbit]
              repeat (first | (refine step_ops ?_; (first | (refine m_mov (by conv => lhs; whnf) ?_) | (refine m_lss rfl rfl ?_) | (refine m_add rfl rfl ?_ ?_ ?_; (· omega); (· omega)))) | refine end_ops ?_ | refine seq_ops ?_ | refine AW_ops ?_ | (refine cond_f rfl ?_ ?_; (· (refine decide_eq_false ?_; omega))) | refine AW_seq ?_ | refine norm_then ?_ | refine exit_then ?_ | refine norm_block ?_ | refine exit_round ?_ | refine AW_exit ?_ | refine exit_block ?_)
              refine next_round (j + 1) (by omega) (weak_st ?_ ?_ rfl rfl) (by omega)
              · (repeat' (first | exact trivial | refine And.intro ?_ ?_)) <;> (first | rfl | skip)
              · (repeat' (first | exact trivial | refine And.intro ?_ ?_)) <;> (first | rfl | skip)
          · have hf : fbB B row j = false := by simpa using hf
            repeat (first | (refine step_ops ?_; (first | (refine m_mov (by conv => lhs; whnf) ?_) | (refine m_add rfl rfl ?_ ?_ ?_; (· omega); (· omega)) | (refine m_pick_t rfl ?_ (by conv => lhs; whnf) ?_; (· rfl)))) | refine end_ops ?_ | refine AW_ops ?_ | (refine cond_f rfl ?_ ?_; (· assumption)) | refine norm_then ?_ | refine norm_block ?_ | refine AW_skip ?_)
            refine next_round (j + 1) (by omega) (weak_st ?_ ?_ rfl rfl) (by omega)
            · (repeat' (first | exact trivial | refine And.intro ?_ ?_)) <;> (first | rfl | skip)
            · (repeat' (first | exact trivial | refine And.intro ?_ ?_)) <;> (first | rfl | skip)
              show some (true, List.map AV.i _) = some (true, List.map AV.i _)
              rw [skipT fun k => by simp [rkT, hrowm, hf]]
      · have hje : j = sdB B := by omega
        subst hje
        repeat (first | (refine step_ops ?_; (first | (refine m_mov (by conv => lhs; whnf) ?_) | (refine m_lss rfl rfl ?_))) | refine end_ops ?_ | refine seq_ops ?_ | (refine cond_f rfl ?_ ?_; (· (refine decide_eq_false ?_; omega))) | refine AW_seq ?_ | refine AW_ret ?_ | refine ret_done ?_ | refine norm_then ?_ | refine exit_then ?_ | refine exit_round ?_ | refine AW_exit ?_ | refine exit_block ?_)
        exact outs_sl rfl (by simp [rgL]) (allv_ints _)
end Go.Proofs.YtngfogpbljconaaDoor
namespace Go.Proofs.YtngfogpbljconaaDoor
variable [Go.Am.CodeBlk]
open Go.Am
attribute [local irreducible] AW Outs Weak Lends Lend Sp aops atree aop1 Then Round InBlock Done
attribute [local irreducible] SpH SpX DoneH DoneX
theorem rgR_new (n : Nat) (f : Nat → Nat) : rgR n f = newInts (rgL n f) := by
  unfold rgR newInts
  rw [rgL_len]
/-- The numbers of rooks of a text. -/
def rksB (B : List UInt8) : List Int := if GoodBd B then rgL (sdB B) (rkN (fbB B) (sdB B)) else []
def rksR (B : List UInt8) : AV := .tup [newInts (rksB B), .b (decide (GoodBd B))]
theorem rksB_len (B : List UInt8) : (rksB B).length ≤ 1048576 := by
  unfold rksB
  split
  · rename_i h
    have := good_sd h
    rw [rgL_len]; omega
  · simp
theorem rooks0_spec (B : List UInt8) (h : GoodBd B) (hB : B.length ≤ 1048576) : Sp Tryd.prog 46 [str B, .i 0, .i 0] (newInts (rgL (sdB B) (rkN (fbB B) (sdB B)))) := by
  rw [← rgR_new]
  exact bdRooks_spec B h hB (sdB B) 0 0 (by omega) (Nat.pow_pos (by decide))
theorem rookNew_spec (B : List UInt8) (h : GoodBd B) : Sp Tryd.prog 45 [.agg [.i (sdB B : Nat), .rmp false (mkEs (plB B)) (plB B).length]] (newInts (rgL (sdB B) (rkN (fbB B) (sdB B)))) := by
  rw [← rgR_new]
  exact rookNumbers_spec (fbB B) (sdB B) (good_sd h).1 (good_sd h).2
theorem specRookNumbers_spec (B : List UInt8) (hB : B.length ≤ 1048576) : Sp Tryd.prog 21 [str B] (rksR B) := by
  unfold rksR rksB
  refine spec_of Tryd.func21 rfl cc21 rfl ?_
  unfold ac21
  repeat (first | (refine step_ops ?_; (first | (refine m_mov (by conv => lhs; whnf) ?_) | (refine m_nils ?_))) | refine end_ops ?_ | refine seq_ops ?_ | refine AW_seq ?_)
  (refine step_ops ?_); (apply m_call (bdGood_spec B hB)); (· repeat (first | exact lends_nil | (refine lends_cons ?_ ?_; (· exact lend_v))))
  by_cases h : GoodBd B
  · rw [if_pos h]
    repeat (first | (refine step_ops ?_; (first | (refine m_mov (by conv => lhs; whnf) ?_) | (refine m_not rfl ?_))) | refine end_ops ?_ | refine seq_ops ?_ | (refine cond_f rfl ?_ ?_; (· (refine nf ?_; assumption))) | refine skip_then ?_)
    (refine step_ops ?_); (apply m_callo (rooks0_spec B h hB)); (· repeat (first | exact lends_nil | (refine lends_cons ?_ ?_; (· exact lend_v)))); (· first | exact allv_ints _ | rfl | (simp; done))
    repeat (first | (refine step_ops ?_; (refine m_mov (by conv => lhs; whnf) ?_)) | refine end_ops ?_ | refine AW_ret ?_ | refine ret_done ?_)
    exact outs_tup2 (outs_ints rfl rfl rfl) (outs_b (by simp [h]))
  · rw [if_neg h]
    repeat (first | (refine step_ops ?_; (first | (refine m_mov (by conv => lhs; whnf) ?_) | (refine m_not rfl ?_) | (refine m_nils ?_))) | refine end_ops ?_ | refine seq_ops ?_ | (refine cond_t rfl ?_ ?_; (· (refine nt ?_; assumption))) | refine AW_ret ?_ | refine ret_done ?_ | refine ret_then ?_)
    exact outs_tup2 (outs_ints rfl rfl rfl) (outs_b (by simp [h]))
theorem implRookNumbers_spec (B : List UInt8) (hB : B.length ≤ 1048576) : Sp Tryd.prog 20 [str B] (rksR B) := by
  have hr := readBoard_spec B hB
  unfold bdR bdV at hr
  unfold rksR rksB
  refine spec_of Tryd.func20 rfl cc20 rfl ?_
  unfold ac20
  by_cases h : GoodBd B
  · rw [if_pos h] at hr
    have hk := rookNew_spec B h
    rw [if_pos h]
    repeat (first | (refine step_ops ?_; (first | (refine m_mov (by conv => lhs; whnf) ?_) | (refine m_nils ?_))) | refine end_ops ?_ | refine seq_ops ?_)
    (refine step_ops ?_); (apply m_call (hr)); (· repeat (first | exact lends_nil | (refine lends_cons ?_ ?_; (· exact lend_v))))
    repeat (first | (refine step_ops ?_; (first | (refine m_mov (by conv => lhs; whnf) ?_) | (refine m_not rfl ?_) | (refine m_ext rfl rfl ?_) | (refine m_alloc ?_) | (refine m_ldall rfl rfl ?_ ?_; (· first | rfl | (simp; done) | (simp [*]; done))) | (refine m_stall rfl rfl rfl ?_ ?_ ?_ ?_; (· first | rfl | (simp [*]; done)); (· first | rfl | (simp [*]; done)); (· first | rfl | (simp [cellOk, Value.oneCell']; done))))) | refine end_ops ?_ | refine seq_ops ?_ | (refine cond_f rfl ?_ ?_; (· (refine nf ?_; assumption))) | refine skip_then ?_ | refine AW_seq ?_)
    refine step_ops ?_
    refine m_callo hk (lends_cons (lend_aggM rfl) lends_nil) (allv_ints _) ?_
    repeat (first | (refine step_ops ?_; (refine m_mov (by conv => lhs; whnf) ?_)) | refine end_ops ?_ | refine AW_ret ?_ | refine ret_done ?_)
    exact outs_tup2 (outs_ints rfl rfl rfl) (outs_b (by simp [h]))
  · rw [if_neg h] at hr
    rw [if_neg h]
    repeat (first | (refine step_ops ?_; (first | (refine m_mov (by conv => lhs; whnf) ?_) | (refine m_nils ?_))) | refine end_ops ?_ | refine seq_ops ?_)
    (refine step_ops ?_); (apply m_call (hr)); (· repeat (first | exact lends_nil | (refine lends_cons ?_ ?_; (· exact lend_v))))
    repeat (first | (refine step_ops ?_; (first | (refine m_mov (by conv => lhs; whnf) ?_) | (refine m_not rfl ?_) | (refine m_nils ?_) | (refine m_ext rfl rfl ?_) | (refine m_alloc ?_) | (refine m_stall rfl rfl rfl ?_ ?_ ?_ ?_; (· first | rfl | (simp [*]; done)); (· first | rfl | (simp [*]; done)); (· first | rfl | (simp [cellOk, Value.oneCell']; done))))) | refine end_ops ?_ | refine seq_ops ?_ | (refine cond_t rfl ?_ ?_; (· (refine nt ?_; assumption))) | refine AW_seq ?_ | refine AW_ret ?_ | refine ret_done ?_ | refine ret_then ?_)
    exact outs_tup2 (outs_ints rfl rfl rfl) (outs_b (by simp [h]))
/-- The greatest number of rooks. -/
def mostN (f : Nat → Nat) : Nat → Nat
  | 0 => 0
  | k + 1 => if 0 < f (k + 1) then k + 1 else mostN f k
theorem mostN_le (f : Nat → Nat) : ∀ k, mostN f k ≤ k
  | 0 => Nat.le_refl _
  | k + 1 => by
    rw [mostN]
    split
    · exact Nat.le_refl _
    · have := mostN_le f k; omega
def mostR (B : List UInt8) : AV := .tup [.i (if GoodBd B then ((mostN (rkN (fbB B) (sdB B)) (sdB B) : Nat) : Int) else 0), .b (decide (GoodBd B))]
theorem rk0 (fb : Nat → Nat → Bool) (n : Nat) : ∀ m S, rkG fb n m S 0 = 1
  | 0, _ => rfl
  | m + 1, S => by
    rw [rkG, rk0 fb n m S, sumN_congr (g := fun _ => 0) fun j _ => by simp, sumN_zero]
theorem bdMost_spec (B : List UInt8) (h : GoodBd B) (hB : B.length ≤ 1048576) : Sp Tryd.prog 47 [str B] (.i (mostN (rkN (fbB B) (sdB B)) (sdB B) : Nat)) := by
  have hsd := good_sd h
  have hk := rooks0_spec B h hB
  have hle : ∀ k, rkN (fbB B) (sdB B) k ≤ 43046721 := fun k => rkG_le9 h (by omega) 0 k
  have h0 : rkN (fbB B) (sdB B) 0 = 1 := rk0 _ _ _ _
  generalize rkN (fbB B) (sdB B) = f at *
  have hl := rgL_len (sdB B) f
  refine spec_of Tryd.func47 rfl cc47 rfl ?_
  unfold ac47
  repeat (first | (refine step_ops ?_; (refine m_mov (by conv => lhs; whnf) ?_)) | refine end_ops ?_ | refine seq_ops ?_ | refine AW_seq ?_)
  (refine step_ops ?_); (apply m_call (hk)); (· repeat (first | exact lends_nil | (refine lends_cons ?_ ?_; (· exact lend_v))))
  repeat (first | (refine step_ops ?_; (first | (refine m_mov (by conv => lhs; whnf) ?_) | (refine m_len_ro rfl ?_))) | refine end_ops ?_ | refine AW_block ?_)
  refine AW_loop (α := Nat) (fun k => k ≤ sdB B + 1) (fun k => st [(0, str B), (3, .i (mostN f (k - 1) : Nat)), (7, newInts (rgL (sdB B) f)), (8, .i (rgL (sdB B) f).length), (9, .i (k : Nat))] []) (fun k => sdB B + 1 - k) 0 (by omega) (weak_st ?_ ?_ rfl rfl) ?_
  · (repeat' (first | exact trivial | refine And.intro ?_ ?_)) <;> (first | rfl | skip)
  · trivial
  rintro k hk2
  unfold newInts
  by_cases hk1 : k < sdB B + 1
  · have g1 := rgL_get f hk1
    have b1 := hle k
    by_cases hv : 0 < f k
    · have b4 : 0 < (rgL (sdB B) f).getD k 0 := by rw [g1]; omega
      repeat (first | (refine step_ops ?_; (first | (refine m_mov (by conv => lhs; whnf) ?_) | (refine m_lss rfl rfl ?_) | (refine m_gtr rfl rfl ?_) | (refine m_add rfl rfl ?_ ?_ ?_; (· omega); (· omega)) | (refine m_idx1_ro rfl rfl ?_ ?_; (· omega)) | (refine m_ld_rpi rfl ?_ ?_; (· omega)))) | refine end_ops ?_ | refine seq_ops ?_ | refine AW_ops ?_ | (refine cond_t rfl ?_ ?_; (· first | (refine decide_eq_true ?_; assumption) | (refine decide_eq_true ?_; omega))) | refine skip_then ?_ | refine AW_seq ?_ | refine norm_then ?_ | refine AW_block ?_ | refine norm_block ?_)
      refine next_round (k + 1) (by omega) (weak_st ?_ ?_ rfl rfl) (by omega)
      · (repeat' (first | exact trivial | refine And.intro ?_ ?_)) <;> (first | rfl | skip)
        show AV.i (k : Nat) = AV.i (mostN f k : Nat)
        cases k with
        | zero => rfl
        | succ k => rw [mostN, if_pos hv]
      · trivial
    · have b4 : (rgL (sdB B) f).getD k 0 = 0 := by rw [g1]; omega
      repeat (first | (refine step_ops ?_; (first | (refine m_mov (by conv => lhs; whnf) ?_) | (refine m_lss rfl rfl ?_) | (refine m_gtr rfl rfl ?_) | (refine m_add rfl rfl ?_ ?_ ?_; (· omega); (· omega)) | (refine m_idx1_ro rfl rfl ?_ ?_; (· omega)) | (refine m_ld_rpi rfl ?_ ?_; (· omega)))) | refine end_ops ?_ | refine seq_ops ?_ | refine AW_ops ?_ | (refine cond_t rfl ?_ ?_; (· (refine decide_eq_true ?_; omega))) | (refine cond_f rfl ?_ ?_; (· (refine decide_eq_false ?_; omega))) | refine skip_then ?_ | refine AW_seq ?_ | refine norm_then ?_ | refine AW_block ?_ | refine norm_block ?_ | refine AW_skip ?_)
      refine next_round (k + 1) (by omega) (weak_st ?_ ?_ rfl rfl) (by omega)
      · (repeat' (first | exact trivial | refine And.intro ?_ ?_)) <;> (first | rfl | skip)
        show AV.i (mostN f (k - 1) : Nat) = AV.i (mostN f k : Nat)
        cases k with
        | zero => omega
        | succ k => rw [mostN, if_neg hv]; rfl
      · trivial
  · have hke : k = sdB B + 1 := by omega
    subst hke
    repeat (first | (refine step_ops ?_; (first | (refine m_mov (by conv => lhs; whnf) ?_) | (refine m_lss rfl rfl ?_))) | refine end_ops ?_ | refine seq_ops ?_ | (refine cond_f rfl ?_ ?_; (· (refine decide_eq_false ?_; omega))) | refine AW_seq ?_ | refine AW_ret ?_ | refine ret_done ?_ | refine norm_then ?_ | refine exit_then ?_ | refine exit_round ?_ | refine AW_exit ?_ | refine exit_block ?_)
    exact outs_i rfl
theorem specMostRooks_spec (B : List UInt8) (hB : B.length ≤ 1048576) : Sp Tryd.prog 23 [str B] (mostR B) := by
  unfold mostR
  refine spec_of Tryd.func23 rfl cc23 rfl ?_
  unfold ac23
  repeat (first | (refine step_ops ?_; (refine m_mov (by conv => lhs; whnf) ?_)) | refine end_ops ?_ | refine seq_ops ?_ | refine AW_seq ?_)
  (refine step_ops ?_); (apply m_call (bdGood_spec B hB)); (· repeat (first | exact lends_nil | (refine lends_cons ?_ ?_; (· exact lend_v))))
  by_cases h : GoodBd B
  · rw [if_pos h]
    repeat (first | (refine step_ops ?_; (first | (refine m_mov (by conv => lhs; whnf) ?_) | (refine m_not rfl ?_))) | refine end_ops ?_ | refine seq_ops ?_ | (refine cond_f rfl ?_ ?_; (· (refine nf ?_; assumption))) | refine skip_then ?_)
    (refine step_ops ?_); (apply m_call (bdMost_spec B h hB)); (· repeat (first | exact lends_nil | (refine lends_cons ?_ ?_; (· exact lend_v))))
    repeat (first | (refine step_ops ?_; (refine m_mov (by conv => lhs; whnf) ?_)) | refine end_ops ?_ | refine AW_ret ?_ | refine ret_done ?_)
    exact outs_tup2 (outs_i rfl) (outs_b (by simp [h]))
  · rw [if_neg h]
    repeat (first | (refine step_ops ?_; (first | (refine m_mov (by conv => lhs; whnf) ?_) | (refine m_not rfl ?_))) | refine end_ops ?_ | refine seq_ops ?_ | (refine cond_t rfl ?_ ?_; (· (refine nt ?_; assumption))) | refine AW_ret ?_ | refine ret_done ?_ | refine ret_then ?_)
    exact outs_tup2 (outs_i rfl) (outs_b (by simp [h]))
theorem implMostRooks_spec (B : List UInt8) (hB : B.length ≤ 1048576) : Sp Tryd.prog 22 [str B] (mostR B) := by
  have hr := readBoard_spec B hB
  unfold bdR bdV at hr
  unfold mostR
  refine spec_of Tryd.func22 rfl cc22 rfl ?_
  unfold ac22
  by_cases h : GoodBd B
  · rw [if_pos h] at hr
    have hk := rookNew_spec B h
    rw [if_pos h]
    have hsd := good_sd h
    have hle : ∀ k, rkN (fbB B) (sdB B) k ≤ 43046721 := fun k => rkG_le9 h (by omega) 0 k
    have h0 : rkN (fbB B) (sdB B) 0 = 1 := rk0 _ _ _ _
    generalize rkN (fbB B) (sdB B) = f at *
    have hl := rgL_len (sdB B) f
    repeat (first | (refine step_ops ?_; (refine m_mov (by conv => lhs; whnf) ?_)) | refine end_ops ?_ | refine seq_ops ?_)
    (refine step_ops ?_); (apply m_call (hr)); (· repeat (first | exact lends_nil | (refine lends_cons ?_ ?_; (· exact lend_v))))
    repeat (first | (refine step_ops ?_; (first | (refine m_mov (by conv => lhs; whnf) ?_) | (refine m_not rfl ?_) | (refine m_ext rfl rfl ?_) | (refine m_alloc ?_) | (refine m_ldall rfl rfl ?_ ?_; (· first | rfl | (simp; done) | (simp [*]; done))) | (refine m_stall rfl rfl rfl ?_ ?_ ?_ ?_; (· first | rfl | (simp [*]; done)); (· first | rfl | (simp [*]; done)); (· first | rfl | (simp [cellOk, Value.oneCell']; done))))) | refine end_ops ?_ | refine seq_ops ?_ | (refine cond_f rfl ?_ ?_; (· (refine nf ?_; assumption))) | refine skip_then ?_ | refine AW_seq ?_)
    refine step_ops ?_
    refine m_callo hk (lends_cons (lend_aggM rfl) lends_nil) (allv_ints _) ?_
    repeat (first | (refine step_ops ?_; (first | (refine m_mov (by conv => lhs; whnf) ?_) | (apply m_ld_pt; (· rfl); (· rfl); (· rfl)) | (refine m_fa rfl ?_))) | refine end_ops ?_ | refine seq_ops ?_ | refine AW_seq ?_ | refine AW_block ?_)
    refine AW_loop (α := Nat) (fun k => k ≤ sdB B ∧ mostN f k = mostN f (sdB B)) (fun k => st [(6, .sl 16 1 0 (rgL (sdB B) f).length), (7, .i (k : Nat))] [(16, (true, (rgL (sdB B) f).map AV.i))]) (fun k => k) (sdB B) ⟨Nat.le_refl _, rfl⟩ (weak_st ?_ ?_ rfl rfl) ?_
    · (repeat' (first | exact trivial | refine And.intro ?_ ?_)) <;> (first | rfl | skip)
    · (repeat' (first | exact trivial | refine And.intro ?_ ?_)) <;> (first | rfl | skip)
    rintro k ⟨hk1, hk2⟩
    have g1 := rgL_get (n := sdB B) (k := k) f (by omega)
    by_cases hv : 0 < f k
    · have b4 : ¬ (rgL (sdB B) f).getD k 0 = 0 := by rw [g1]; omega
      repeat (first | (refine step_ops ?_; (first | (refine m_mov (by conv => lhs; whnf) ?_) | (refine m_eql rfl rfl ?_) | (refine m_idx1_sl rfl rfl ?_ ?_; (· omega)) | (refine m_ld_pti rfl (by rfl) ?_ ?_; (· first | omega | (simp; omega))))) | refine end_ops ?_ | refine seq_ops ?_ | (refine cond_f rfl ?_ ?_; (· (refine decide_eq_false ?_; assumption))) | refine AW_seq ?_ | refine AW_ret ?_ | refine ret_done ?_ | refine norm_then ?_ | refine exit_then ?_ | refine exit_round ?_ | refine AW_exit ?_ | refine exit_block ?_)
      refine outs_tup2 (outs_i ?_) (outs_b (by simp [h]))
      rw [← hk2]
      cases k with
      | zero => rfl
      | succ k => rw [mostN, if_pos hv]
    · have b4 : (rgL (sdB B) f).getD k 0 = 0 := by rw [g1]; omega
      have hkp : 0 < k := by
        rcases Nat.eq_zero_or_pos k with h3 | h3
        · subst h3; omega
        · exact h3
      repeat (first | (refine step_ops ?_; (first | (refine m_mov (by conv => lhs; whnf) ?_) | (refine m_eql rfl rfl ?_) | (refine m_sub rfl rfl ?_ ?_ ?_; (· omega); (· omega)) | (refine m_idx1_sl rfl rfl ?_ ?_; (· omega)) | (refine m_ld_pti rfl (by rfl) ?_ ?_; (· first | omega | (simp; omega))))) | refine end_ops ?_ | refine seq_ops ?_ | refine AW_ops ?_ | (refine cond_t rfl ?_ ?_; (· (refine decide_eq_true ?_; assumption))) | refine skip_then ?_ | refine AW_seq ?_ | refine AW_block ?_ | refine norm_block ?_)
      refine next_round (k - 1) ⟨by omega, ?_⟩ (weak_st ?_ ?_ rfl rfl) (by omega)
      · rw [← hk2]
        obtain ⟨j, rfl⟩ : ∃ j, k = j + 1 := ⟨k - 1, by omega⟩
        rw [mostN, if_neg hv]
        rfl
      · (repeat' (first | exact trivial | refine And.intro ?_ ?_)) <;> (first | rfl | skip)
        show AV.i ((k : Int) - 1) = AV.i ((k - 1 : Nat) : Int)
        exact congrArg AV.i (by omega)
      · (repeat' (first | exact trivial | refine And.intro ?_ ?_)) <;> (first | rfl | skip)
  · rw [if_neg h] at hr
    rw [if_neg h]
    repeat (first | (refine step_ops ?_; (refine m_mov (by conv => lhs; whnf) ?_)) | refine end_ops ?_ | refine seq_ops ?_)
    (refine step_ops ?_); (apply m_call (hr)); (· repeat (first | exact lends_nil | (refine lends_cons ?_ ?_; (· exact lend_v))))
    repeat (first | (refine step_ops ?_; (first | (refine m_mov (by conv => lhs; whnf) ?_) | (refine m_not rfl ?_) | (refine m_ext rfl rfl ?_) | (refine m_alloc ?_) | (refine m_stall rfl rfl rfl ?_ ?_ ?_ ?_; (· first | rfl | (simp [*]; done)); (· first | rfl | (simp [*]; done)); (· first | rfl | (simp [cellOk, Value.oneCell']; done))))) | refine end_ops ?_ | refine seq_ops ?_ | (refine cond_t rfl ?_ ?_; (· (refine nt ?_; assumption))) | refine AW_seq ?_ | refine AW_ret ?_ | refine ret_done ?_ | refine ret_then ?_)
    exact outs_tup2 (outs_i rfl) (outs_b (by simp [h]))
end Go.Proofs.YtngfogpbljconaaDoor
namespace Go.Am
variable [Go.Am.CodeBlk]
def fac : Nat → Int
  | 0 => 1
  | n + 1 => fac n * (n + 1)
theorem fac_le : ∀ n < 13, 1 ≤ fac n ∧ fac n ≤ 479001600 := by decide +kernel
def cap : Nat → Int
  | 0 => 479001600
  | s + 1 => 2 * cap s
end Go.Am
namespace Go.Proofs.YtngfogpbljconaaDoor
variable [Go.Am.CodeBlk]
open Go.Am
attribute [local irreducible] AW Outs Weak Lends Lend Sp aops atree aop1 Then Round InBlock Done
theorem factorial_spec (n : Nat) (h : n ≤ 12) : Sp Tryd.prog 65 [.i n] (.i (fac n)) := by
  refine spec_of Tryd.func65 rfl cc65 rfl ?_
  unfold ac65
  repeat (first | (refine step_ops ?_; (refine m_mov (by conv => lhs; whnf) ?_)) | refine end_ops ?_ | refine seq_ops ?_ | refine AW_seq ?_ | refine AW_block ?_)
  refine AW_loop (α := Nat) (fun j => j + 1 ≤ n ∨ j = 0) (fun j => st [(0, .i n), (3, .i (fac (j + 1))), (4, .i ((j : Int) + 2))] []) (fun j => n - j) 0 (.inr rfl) (weak_st ?_ ?_ rfl rfl) ?_
  · (repeat' (first | exact trivial | refine And.intro ?_ ?_)) <;> (first | rfl | skip)
  · trivial
  intro j hj
  by_cases hc : (j : Int) + 2 ≤ n
  · have hb := fac_le (j + 2) (by omega)
    have e : fac (j + 2) = fac (j + 1) * ((j : Int) + 2) := rfl
    rw [e] at hb
    repeat (first | (refine step_ops ?_; (first | (refine m_mov (by conv => lhs; whnf) ?_) | (refine m_leq rfl rfl ?_) | (refine m_add rfl rfl ?_ ?_ ?_; (· omega); (· omega)) | (refine m_mul rfl rfl ?_ ?_ ?_; (· first | omega | (simp; done)); (· first | omega | (simp; done))))) | refine end_ops ?_ | refine seq_ops ?_ | refine AW_ops ?_ | (refine cond_t rfl ?_ ?_; (· (refine decide_eq_true ?_; assumption))) | refine skip_then ?_ | refine AW_seq ?_ | refine norm_then ?_ | refine AW_block ?_ | refine norm_block ?_)
    refine next_round (j + 1) (by omega) (weak_st ?_ ?_ rfl rfl) ?_
    · (repeat' (first | exact trivial | refine And.intro ?_ ?_)) <;> (first | rfl | skip)
    · trivial
    · omega
  · repeat (first | (refine step_ops ?_; (first | (refine m_mov (by conv => lhs; whnf) ?_) | (refine m_leq rfl rfl ?_))) | refine end_ops ?_ | refine seq_ops ?_ | (refine cond_f rfl ?_ ?_; (· (refine decide_eq_false ?_; assumption))) | refine AW_seq ?_ | refine AW_ret ?_ | refine ret_done ?_ | refine norm_then ?_ | refine exit_then ?_ | refine exit_round ?_ | refine AW_exit ?_ | refine exit_block ?_)
    refine outs_i ?_
    rcases hj with hj | rfl
    · have : j + 1 = n := by omega
      rw [this]
    · have : n = 0 ∨ n = 1 := by omega
      rcases this with rfl | rfl <;> rfl
end Go.Proofs.YtngfogpbljconaaDoor
namespace Go.Proofs.YtngfogpbljconaaDoor
variable [Go.Am.CodeBlk]
open Go.Am
attribute [local irreducible] AW Outs Weak Lends Lend Sp aops atree aop1 Then Round InBlock Done
theorem exTimes_spec (n : Nat) (h : n ≤ 12) : Sp Tryd.prog 67 [.i n] (.i (fac n)) := by
  refine spec_of Tryd.func67 rfl cc67 rfl ?_
  unfold ac67
  repeat (first | (refine step_ops ?_; (refine m_mov (by conv => lhs; whnf) ?_)) | refine end_ops ?_ | refine seq_ops ?_ | refine AW_seq ?_ | refine AW_block ?_)
  refine AW_loop (α := Nat) (fun j => j + 1 ≤ n ∨ j = 0) (fun j => st [(0, .i n), (3, .i (fac (j + 1))), (4, .i ((j : Int) + 2))] []) (fun j => n - j) 0 (.inr rfl) (weak_st ?_ ?_ rfl rfl) ?_
  · (repeat' (first | exact trivial | refine And.intro ?_ ?_)) <;> (first | rfl | skip)
  · trivial
  intro j hj
  by_cases hc : (j : Int) + 2 ≤ n
  · have hb := fac_le (j + 2) (by omega)
    have e : fac (j + 2) = fac (j + 1) * ((j : Int) + 2) := rfl
    rw [e] at hb
    repeat (first | (refine step_ops ?_; (first | (refine m_mov (by conv => lhs; whnf) ?_) | (refine m_leq rfl rfl ?_) | (refine m_add rfl rfl ?_ ?_ ?_; (· omega); (· omega)) | (refine m_mul rfl rfl ?_ ?_ ?_; (· first | omega | (simp; done)); (· first | omega | (simp; done))))) | refine end_ops ?_ | refine seq_ops ?_ | refine AW_ops ?_ | (refine cond_t rfl ?_ ?_; (· (refine decide_eq_true ?_; assumption))) | refine skip_then ?_ | refine AW_seq ?_ | refine norm_then ?_ | refine AW_block ?_ | refine norm_block ?_)
    refine next_round (j + 1) (by omega) (weak_st ?_ ?_ rfl rfl) ?_
    · (repeat' (first | exact trivial | refine And.intro ?_ ?_)) <;> (first | rfl | skip)
    · trivial
    · omega
  · repeat (first | (refine step_ops ?_; (first | (refine m_mov (by conv => lhs; whnf) ?_) | (refine m_leq rfl rfl ?_))) | refine end_ops ?_ | refine seq_ops ?_ | (refine cond_f rfl ?_ ?_; (· (refine decide_eq_false ?_; assumption))) | refine AW_seq ?_ | refine AW_ret ?_ | refine ret_done ?_ | refine norm_then ?_ | refine exit_then ?_ | refine exit_round ?_ | refine AW_exit ?_ | refine exit_block ?_)
    refine outs_i ?_
    rcases hj with hj | rfl
    · have : j + 1 = n := by omega
      rw [this]
    · have : n = 0 ∨ n = 1 := by omega
      rcases this with rfl | rfl <;> rfl
end Go.Proofs.YtngfogpbljconaaDoor
namespace Go.Proofs.YtngfogpbljconaaDoor
variable [Go.Am.CodeBlk]
open Go.Am
attribute [local irreducible] AW Outs Weak Lends Lend Sp aops atree aop1 Then Round InBlock Done
theorem l1Own_spec (L : List Int) (hL : L.length ≤ 1048576) : Sp Tryd.prog 60 [ints L] (newInts L) := by
  refine spec_of Tryd.func60 rfl cc60 rfl ?_
  unfold ac60
  repeat (first | (refine step_ops ?_; (first | (refine m_mov (by conv => lhs; whnf) ?_) | (refine m_nils ?_) | (refine m_bsl0 ?_) | (refine m_appro rfl (by decide) rfl (by first | rfl | (simp; done) | (simp [*]; done) | (simp; omega)) rfl (oks_ints _) ?_ (by decide) ?_; (· first | omega | (simp; omega))))) | refine end_ops ?_ | refine seq_ops ?_ | refine AW_ret ?_ | refine ret_done ?_)
  exact outs_ints rfl rfl (Nat.zero_add _)
theorem slicesClone_spec (L : List Int) (hL : L.length ≤ 1048576) (h1 : 1 ≤ L.length) : Sp Tryd.prog 80 [ints L] (newInts L) := by
  refine spec_of Tryd.func80 rfl cc80 rfl ?_
  unfold ac80
  repeat (first | (refine step_ops ?_; (first | (refine m_mov (by conv => lhs; whnf) ?_) | (refine m_isnil_ro rfl ?_ ?_; (· omega)) | (refine m_nils ?_) | (refine m_bsl0 ?_) | (refine m_appro rfl (by decide) rfl (by first | rfl | (simp; done) | (simp [*]; done) | (simp; omega)) rfl (oks_ints _) ?_ (by decide) ?_; (· first | omega | (simp; omega))))) | refine end_ops ?_ | refine seq_ops ?_ | (refine cond_f rfl ?_ ?_; (· rfl)) | refine skip_then ?_ | refine AW_seq ?_ | refine AW_ret ?_ | refine ret_done ?_)
  exact outs_ints rfl rfl (Nat.zero_add _)
end Go.Proofs.YtngfogpbljconaaDoor
namespace Go.Am
variable [Go.Am.CodeBlk]
/-- What the machine makes of a number that is too large. -/
def w64 (x : Int) : Int := IntKind.i64.wrap x
section
variable {P : Program} {own : Bool} {s : AS} {K : AS → Prop} {d : Option Nat} {x y : Opd} {a b : Int}
theorem m_subw (hx : s.ev x = .i a) (hy : s.ev y = .i b) (k : K (s.put d (.i (w64 (a - b))))) : aop1 P own ⟨d, .bin .sub x y, none⟩ s K := ⟨_, _, _, hx, hy, rfl, k⟩
theorem m_mulw (hx : s.ev x = .i a) (hy : s.ev y = .i b) (k : K (s.put d (.i (w64 (a * b))))) : aop1 P own ⟨d, .bin .mul x y, none⟩ s K := ⟨_, _, _, hx, hy, rfl, k⟩
end
/-- Choices of k of n; behind j steps. -/
def chy (n k : Nat) : Nat → Int
  | 0 => 1
  | j + 1 => chy n k j * ((n : Int) - k + ((j : Int) + 1)) / ((j : Int) + 1)
theorem chy_le : ∀ n < 9, ∀ k < n + 1, ∀ j < k + 1, (0 ≤ chy n k j ∧ chy n k j ≤ 1000) ∧ 0 ≤ chy n k j * ((n : Int) - k + ((j : Int) + 1)) ∧ chy n k j * ((n : Int) - k + ((j : Int) + 1)) ≤ 100000 := by decide +kernel
theorem chy_bin : ∀ n < 9, ∀ k < n + 1, chy n k k = fac n / (fac k * fac (n - k)) ∧ (1 ≤ fac k * fac (n - k) ∧ fac k * fac (n - k) ≤ 40320) ∧ 1 ≤ fac n ∧ fac n ≤ 40320 := by decide +kernel
/-- What is left of those chosen behind j steps: of k, with the numbers of those that have more. -/
def hF (c : Int) (k : Nat) (rest : List Int) : Nat → Int
  | 0 => c
  | j + 1 => w64 (hF c k rest j - w64 (chy (k + 1 + j) k k * rest.getD j 0))
/-- The last numbers of hits. -/
def hL (C : Nat → Int) (n : Nat) : Nat → List Int
  | 0 => []
  | d + 1 => hF (C (n - d)) (n - d) (hL C n d) d :: hL C n d
theorem hL_len (C : Nat → Int) (n : Nat) : ∀ d, (hL C n d).length = d
  | 0 => rfl
  | d + 1 => by rw [hL, List.length_cons, hL_len C n d]
/-- What is chosen. -/
def chC (f : Nat → Nat) (n k : Nat) : Int := (f k : Int) * fac (n - k)
def chL (f : Nat → Nat) (n k : Nat) : List Int := (List.range k).map fun i => chC f n i
theorem chL_len (f : Nat → Nat) (n k : Nat) : (chL f n k).length = k := by simp [chL]
theorem chC_le {f : Nat → Nat} {n k : Nat} (hf : f k ≤ 43046721) (hn : n ≤ 8) : 0 ≤ chC f n k ∧ chC f n k ≤ 43046721 * 479001600 := by
  have h1 := fac_le (n - k) (by omega)
  unfold chC
  exact ⟨Int.mul_nonneg (by omega) (by omega), Int.mul_le_mul (by omega) h1.2 (by omega) (by omega)⟩
end Go.Am
namespace Go.Proofs.YtngfogpbljconaaDoor
variable [Go.Am.CodeBlk]
open Go.Am
attribute [local irreducible] AW Outs Weak Lends Lend Sp aops atree aop1 Then Round InBlock Done
attribute [local irreducible] SpH SpX DoneH DoneX
theorem exChooseY_spec (n k : Nat) (hn : n ≤ 8) (hk : k ≤ n) : Sp Tryd.prog 68 [.i n, .i k] (.i (chy n k k)) := by
  refine spec_of Tryd.func68 rfl cc68 rfl ?_
  unfold ac68
  repeat (first | (refine step_ops ?_; (refine m_mov (by conv => lhs; whnf) ?_)) | refine end_ops ?_ | refine seq_ops ?_ | refine AW_seq ?_ | refine AW_block ?_)
  refine AW_loop (α := Nat) (fun j => j ≤ k) (fun j => st [(0, .i n), (1, .i k), (5, .i (chy n k j)), (6, .i ((j : Int) + 1))] []) (fun j => k - j) 0 (by omega) (weak_st ?_ ?_ rfl rfl) ?_
  · (repeat' (first | exact trivial | refine And.intro ?_ ?_)) <;> (first | rfl | skip)
  · trivial
  intro j hj
  have hb := chy_le n (by omega) k (by omega) j (by omega)
  by_cases hc : (j : Int) + 1 ≤ k
  · repeat (first | (refine step_ops ?_; (first | (refine m_mov (by conv => lhs; whnf) ?_) | (refine m_leq rfl rfl ?_) | (refine m_add rfl rfl ?_ ?_ ?_; (· omega); (· omega)) | (refine m_sub rfl rfl ?_ ?_ ?_; (· omega); (· omega)) | (refine m_mul rfl rfl ?_ ?_ ?_; (· first | omega | (simp; done)); (· first | omega | (simp; done))) | (refine m_quo rfl rfl ?_ ?_ ?_ ?_; (· omega); (· omega); (· omega)))) | refine end_ops ?_ | refine seq_ops ?_ | refine AW_ops ?_ | (refine cond_t rfl ?_ ?_; (· (refine decide_eq_true ?_; assumption))) | refine skip_then ?_ | refine AW_seq ?_ | refine norm_then ?_ | refine AW_block ?_ | refine norm_block ?_)
    refine next_round (j + 1) (by omega) (weak_st ?_ ?_ rfl rfl) ?_
    · (repeat' (first | exact trivial | refine And.intro ?_ ?_)) <;> (first | rfl | skip)
    · trivial
    · omega
  · repeat (first | (refine step_ops ?_; (first | (refine m_mov (by conv => lhs; whnf) ?_) | (refine m_leq rfl rfl ?_))) | refine end_ops ?_ | refine seq_ops ?_ | (refine cond_f rfl ?_ ?_; (· (refine decide_eq_false ?_; assumption))) | refine AW_seq ?_ | refine AW_ret ?_ | refine ret_done ?_ | refine norm_then ?_ | refine exit_then ?_ | refine exit_round ?_ | refine AW_exit ?_ | refine exit_block ?_)
    obtain rfl : j = k := by omega
    exact outs_i rfl
theorem countChoicesY_spec (n k : Nat) (hn : n ≤ 8) (hk : k ≤ n) : Sp Tryd.prog 84 [.i n, .i k] (.i (chy n k k)) := by
  have hb := chy_bin n (by omega) k (by omega)
  rw [hb.1]
  refine spec_of Tryd.func84 rfl cc84 rfl ?_
  unfold ac84
  repeat (first | (refine step_ops ?_; (refine m_mov (by conv => lhs; whnf) ?_)) | refine end_ops ?_ | refine seq_ops ?_)
  (refine step_ops ?_); (apply m_call (factorial_spec n (by omega))); (· repeat (first | exact lends_nil | (refine lends_cons ?_ ?_; (· exact lend_v))))
  repeat (refine step_ops ?_; (refine m_mov (by conv => lhs; whnf) ?_))
  (refine step_ops ?_); (apply m_call (factorial_spec k (by omega))); (· repeat (first | exact lends_nil | (refine lends_cons ?_ ?_; (· exact lend_v))))
  repeat (refine step_ops ?_; (first | (refine m_mov (by conv => lhs; whnf) ?_) | (refine m_sub rfl rfl ?_ ?_ ?_; (· omega); (· omega))))
  rw [show (n : Int) - (k : Int) = ((n - k : Nat) : Int) by omega]
  (refine step_ops ?_); (apply m_call (factorial_spec (n - k) (by omega))); (· repeat (first | exact lends_nil | (refine lends_cons ?_ ?_; (· exact lend_v))))
  repeat (first | (refine step_ops ?_; (first | (refine m_mov (by conv => lhs; whnf) ?_) | (refine m_mul rfl rfl ?_ ?_ ?_; (· first | omega | (simp; done)); (· first | omega | (simp; done))) | (refine m_quo rfl rfl ?_ ?_ ?_ ?_; (· omega); (· omega); (· omega)))) | refine end_ops ?_ | refine AW_ret ?_ | refine ret_done ?_)
  exact outs_i rfl
theorem justSoManyY_spec (f : Nat → Nat) (n : Nat) (h1 : 1 ≤ n) (h8 : n ≤ 8) : Sp Tryd.prog 66 [ints (chL f n (n + 1))] (newInts (hL (chC f n) n (n + 1))) := by
  have hcl := chL_len f n (n + 1)
  refine spec_of Tryd.func66 rfl cc66 rfl ?_
  unfold ac66
  repeat (first | (refine step_ops ?_; (first | (refine m_mov (by conv => lhs; whnf) ?_) | (refine m_nils ?_))) | refine end_ops ?_ | refine seq_ops ?_)
  refine step_ops ?_; (apply m_callo (slicesClone_spec (chL f n (n + 1)) (by omega) (by omega))); (· repeat (first | exact lends_nil | (refine lends_cons ?_ ?_; (· (refine lend_ints ?_; first | rfl | omega))))); (· first | exact allv_ints _ | rfl | (simp; done))
  repeat (first | (refine step_ops ?_; (first | (refine m_mov (by conv => lhs; whnf) ?_) | (refine m_sub rfl rfl ?_ ?_ ?_; (· omega); (· omega)) | (refine m_len_sl rfl ?_))) | refine end_ops ?_ | refine seq_ops ?_ | refine AW_seq ?_ | refine AW_block ?_)
  refine AW_loop (α := Nat) (fun d => d ≤ n + 1) (fun d => st [(3, .sl 7 1 0 (n + 1)), (4, .i (((n + 1 - d : Nat) : Int) - 1))] [(7, (true, (chL f n (n + 1 - d) ++ hL (chC f n) n d).map AV.i))]) (fun d => n + 1 - d) 0 (by omega) (weak_st ?_ ?_ rfl rfl) ?_
  · (repeat' (first | exact trivial | refine And.intro ?_ ?_)) <;> (first | rfl | skip)
    · show AV.sl 7 1 0 (chL f n (n + 1)).length = _
      rw [hcl]
    · show AV.i (((chL f n (n + 1)).length : Nat) - 1 : Int) = _
      rw [hcl]
      rfl
  · (repeat' (first | exact trivial | refine And.intro ?_ ?_)) <;> (first | rfl | skip)
    show some (true, List.map AV.i (chL f n (n + 1))) = some (true, List.map AV.i (chL f n (n + 1) ++ []))
    rw [List.append_nil]
  intro d hd
  have hll := hL_len (chC f n) n d
  by_cases hc : d < n + 1
  · obtain ⟨k, hk⟩ : ∃ k, n - d = k := ⟨_, rfl⟩
    have hkd : n + 1 - d = k + 1 := by omega
    have hcs : chL f n (k + 1) = chL f n k ++ [chC f n k] := by simp [chL, List.range_succ]
    rw [hkd, show ((k + 1 : Nat) : Int) - 1 = (k : Int) by omega, hcs, List.append_assoc, List.singleton_append]
    have hlk := chL_len f n k
    repeat (first | (refine step_ops ?_; (first | (refine m_mov (by conv => lhs; whnf) ?_) | (refine m_geq rfl rfl ?_) | (refine m_add rfl rfl ?_ ?_ ?_; (· omega); (· omega)))) | refine end_ops ?_ | refine seq_ops ?_ | (refine cond_t rfl ?_ ?_; (· rfl)) | refine skip_then ?_ | refine AW_seq ?_ | refine AW_block ?_)
    refine AW_loop (α := Nat) (fun j => j ≤ d) (fun j => st [(3, .sl 7 1 0 (n + 1)), (4, .i k), (5, .i ((k + 1 + j : Nat) : Int))] [(7, (true, (chL f n k ++ hF (chC f n k) k (hL (chC f n) n d) j :: hL (chC f n) n d).map AV.i))]) (fun j => d - j) 0 (by omega) (weak_st ?_ ?_ rfl rfl) ?_
    · (repeat' (first | exact trivial | refine And.intro ?_ ?_)) <;> (first | rfl | skip)
    · (repeat' (first | exact trivial | refine And.intro ?_ ?_)) <;> (first | rfl | skip)
    intro j hj
    have hM : (chL f n k ++ hF (chC f n k) k (hL (chC f n) n d) j :: hL (chC f n) n d).length = n + 1 := by
      rw [List.length_append, List.length_cons, hll, hlk]; omega
    by_cases hc2 : j < d
    · have g1 : (chL f n k ++ hF (chC f n k) k (hL (chC f n) n d) j :: hL (chC f n) n d).getD k 0 = hF (chC f n k) k (hL (chC f n) n d) j := by
        rw [List.getD_eq_getElem?_getD, List.getElem?_append_right (by omega), hlk, Nat.sub_self]; rfl
      have g2 : (chL f n k ++ hF (chC f n k) k (hL (chC f n) n d) j :: hL (chC f n) n d).getD (k + 1 + j) 0 = (hL (chC f n) n d).getD j 0 := by
        rw [List.getD_eq_getElem?_getD, List.getElem?_append_right (by omega), hlk, show k + 1 + j - k = j + 1 by omega]; rfl
      repeat (first | ((first | refine step_ops ?_ | refine step_tree ?_); (first | (refine m_mov (by conv => lhs; whnf) ?_) | (refine m_lss rfl rfl ?_) | (refine m_len_sl rfl ?_) | (refine m_idx1_sl rfl rfl ?_ ?_; (· omega)) | (refine m_ld_pti rfl (by rfl) ?_ ?_; (· first | omega | (simp; omega))))) | refine end_ops ?_ | refine seq_ops ?_ | refine AW_tree ?_ | (refine cond_t rfl ?_ ?_; (· (refine decide_eq_true ?_; omega))) | refine skip_then ?_ | refine AW_seq ?_ | refine AW_block ?_)
      refine step_tree ?_; (apply m_call (countChoicesY_spec (k + 1 + j) k (by omega) (by omega))); (· repeat (first | exact lends_nil | (refine lends_cons ?_ ?_; (· exact lend_v))))
      repeat (refine step_tree ?_; (first | (refine m_mov (by conv => lhs; whnf) ?_) | (refine m_idx1_sl rfl rfl ?_ ?_; (· omega)) | (refine m_ld_pti rfl (by rfl) ?_ ?_; (· first | omega | (simp; omega)))))
      refine step_tree ?_
      refine m_mulw rfl rfl ?_
      refine step_tree ?_
      refine m_subw rfl rfl ?_
      repeat (first | ((first | refine step_ops ?_ | refine step_tree ?_); (first | (refine m_mov (by conv => lhs; whnf) ?_) | (refine m_add rfl rfl ?_ ?_ ?_; (· omega); (· omega)) | (refine m_idx1_sl rfl rfl ?_ ?_; (· omega)) | (apply m_st; (· rfl); (· rfl); (· rfl); (· first | omega | (simp; done) | (simp; omega)); (· rfl)))) | refine end_ops ?_ | refine AW_ops ?_ | refine end_tree ?_ | refine norm_then ?_ | refine norm_block ?_)
      refine next_round (j + 1) (by omega) (weak_st ?_ ?_ rfl rfl) (by omega)
      · (repeat' (first | exact trivial | refine And.intro ?_ ?_)) <;> (first | rfl | skip)
      · (repeat' (first | exact trivial | refine And.intro ?_ ?_)) <;> (first | rfl | skip)
        show some (true, List.set (List.map AV.i _) _ (AV.i _)) = some (true, List.map AV.i _)
        rw [g1, g2, ← List.map_set, List.set_append_right _ _ (by omega), hlk, Nat.sub_self, List.set_cons_zero]
        rfl
    · obtain rfl : j = d := by omega
      repeat (first | (refine step_ops ?_; (first | (refine m_mov (by conv => lhs; whnf) ?_) | (refine m_lss rfl rfl ?_) | (refine m_sub rfl rfl ?_ ?_ ?_; (· omega); (· omega)) | (refine m_len_sl rfl ?_))) | refine end_ops ?_ | refine seq_ops ?_ | refine AW_ops ?_ | (refine cond_f rfl ?_ ?_; (· (refine decide_eq_false ?_; omega))) | refine AW_seq ?_ | refine norm_then ?_ | refine exit_then ?_ | refine norm_block ?_ | refine exit_round ?_ | refine AW_exit ?_ | refine exit_block ?_)
      refine next_round (j + 1) (by omega) (weak_st ?_ ?_ rfl rfl) (by omega)
      · (repeat' (first | exact trivial | refine And.intro ?_ ?_)) <;> (first | rfl | skip)
        show AV.i ((k : Int) - 1) = AV.i (((n + 1 - (j + 1) : Nat) : Int) - 1)
        exact congrArg AV.i (by omega)
      · (repeat' (first | exact trivial | refine And.intro ?_ ?_)) <;> (first | rfl | skip)
        show some (true, List.map AV.i _) = some (true, List.map AV.i (chL f n (n + 1 - (j + 1)) ++ hL (chC f n) n (j + 1)))
        rw [hL, hk, show n + 1 - (j + 1) = k by omega]
  · obtain rfl : d = n + 1 := by omega
    rw [Nat.sub_self]
    repeat (first | (refine step_ops ?_; (first | (refine m_mov (by conv => lhs; whnf) ?_) | (refine m_geq rfl rfl ?_))) | refine end_ops ?_ | refine seq_ops ?_ | (refine cond_f rfl ?_ ?_; (· rfl)) | refine AW_seq ?_ | refine AW_ret ?_ | refine ret_done ?_ | refine norm_then ?_ | refine exit_then ?_ | refine exit_round ?_ | refine AW_exit ?_ | refine exit_block ?_)
    exact outs_ints rfl (by simp [chL]) hll.symm
theorem hitNumbers_spec (B : List UInt8) (h : GoodBd B) : Sp Tryd.prog 43 [.agg [.i (sdB B : Nat), .rmp false (mkEs (plB B)) (plB B).length]] (newInts (hL (chC (rkN (fbB B) (sdB B)) (sdB B)) (sdB B) (sdB B + 1))) := by
  have hsd := good_sd h
  have hk := rookNew_spec B h
  have hle : ∀ k, rkN (fbB B) (sdB B) k ≤ 43046721 := fun k => rkG_le9 h (by omega) 0 k
  generalize rkN (fbB B) (sdB B) = f at *
  have hlr := rgL_len (sdB B) f
  refine spec_of Tryd.func43 rfl cc43 rfl ?_
  unfold ac43
  repeat (first | (refine step_ops ?_; (first | (refine m_nils ?_) | (refine m_box rfl ?_ ?_; (· first | rfl | (simp [cellOk, Value.oneCell']; done))) | (refine m_ldall rfl rfl ?_ ?_; (· first | rfl | (simp; done) | (simp [*]; done))))) | refine end_ops ?_ | refine seq_ops ?_)
  refine step_ops ?_
  refine m_callo hk (lends_cons (lend_aggM rfl) lends_nil) (allv_ints _) ?_
  repeat (first | (refine step_ops ?_; (first | (refine m_mov (by conv => lhs; whnf) ?_) | (refine m_len_sl rfl ?_))) | refine end_ops ?_ | refine seq_ops ?_ | refine AW_seq ?_ | refine AW_block ?_)
  refine AW_loop (α := Nat) (fun k => k ≤ sdB B + 1) (fun k => st [(1, .pt 1 0), (3, .sl 6 1 0 (sdB B + 1)), (8, .i (sdB B + 1 : Nat)), (9, .i (k : Nat))]
    [(1, (true, [.i (sdB B : Nat), .rmp false (mkEs (plB B)) (plB B).length])), (6, (true, (chL f (sdB B) k ++ (rgL (sdB B) f).drop k).map AV.i))]) (fun k => sdB B + 1 - k) 0 (by omega) (weak_st ?_ ?_ rfl rfl) ?_
  · (repeat' (first | exact trivial | refine And.intro ?_ ?_)) <;> (first | rfl | skip)
    · show AV.sl 6 1 0 (rgL (sdB B) f).length = _
      rw [hlr]
    · show AV.i ((rgL (sdB B) f).length : Nat) = _
      rw [hlr]
  · (repeat' (first | exact trivial | refine And.intro ?_ ?_)) <;> (first | rfl | skip)
  rintro k hk2
  have hlk := chL_len f (sdB B) k
  by_cases hk1 : k < sdB B + 1
  · have hM : (chL f (sdB B) k ++ (rgL (sdB B) f).drop k).length = sdB B + 1 := by
      rw [List.length_append, List.length_drop, hlr, hlk]; omega
    have g1 : (chL f (sdB B) k ++ (rgL (sdB B) f).drop k).getD k 0 = (f k : Int) := by
      rw [List.getD_eq_getElem?_getD, List.getElem?_append_right (by omega), hlk, Nat.sub_self, List.getElem?_drop, Nat.add_zero, ← List.getD_eq_getElem?_getD]
      exact rgL_get f hk1
    have hb := chC_le (f := f) (n := sdB B) (k := k) (hle k) hsd.2
    unfold chC at hb
    rw [← g1] at hb
    repeat (first | ((first | refine step_ops ?_ | refine step_tree ?_); (first | (refine m_mov (by conv => lhs; whnf) ?_) | (refine m_lss rfl rfl ?_) | (refine m_sub rfl rfl ?_ ?_ ?_; (· omega); (· omega)) | (refine m_idx1_sl rfl rfl ?_ ?_; (· omega)) | (refine m_ld_pti rfl (by rfl) ?_ ?_; (· first | omega | (simp; omega))) | (apply m_ld_pt; (· rfl); (· rfl); (· rfl)) | (refine m_fa rfl ?_))) | refine end_ops ?_ | refine seq_ops ?_ | refine AW_tree ?_ | (refine cond_t rfl ?_ ?_; (· (refine decide_eq_true ?_; omega))) | refine skip_then ?_ | refine AW_seq ?_ | refine AW_block ?_)
    rw [show ((sdB B : Nat) : Int) - (k : Int) = ((sdB B - k : Nat) : Int) by omega]
    refine step_tree ?_; (apply m_call (factorial_spec (sdB B - k) (by omega))); (· repeat (first | exact lends_nil | (refine lends_cons ?_ ?_; (· exact lend_v))))
    repeat (first | ((first | refine step_ops ?_ | refine step_tree ?_); (first | (refine m_mov (by conv => lhs; whnf) ?_) | (refine m_add rfl rfl ?_ ?_ ?_; (· omega); (· omega)) | (refine m_mul rfl rfl ?_ ?_ ?_; (· first | omega | (simp; done)); (· first | omega | (simp; done))) | (refine m_idx1_sl rfl rfl ?_ ?_; (· omega)) | (apply m_st; (· rfl); (· rfl); (· rfl); (· first | omega | (simp; done) | (simp; omega)); (· rfl)))) | refine end_ops ?_ | refine AW_ops ?_ | refine end_tree ?_ | refine norm_then ?_ | refine norm_block ?_)
    refine next_round (k + 1) (by omega) (weak_st ?_ ?_ rfl rfl) (by omega)
    · (repeat' (first | exact trivial | refine And.intro ?_ ?_)) <;> (first | rfl | skip)
    · (repeat' (first | exact trivial | refine And.intro ?_ ?_)) <;> (first | rfl | skip)
      show some (true, List.set (List.map AV.i _) _ (AV.i _)) = some (true, List.map AV.i _)
      rw [← List.map_set, g1, List.set_append_right _ _ (by omega), hlk, Nat.sub_self]
      have e : (rgL (sdB B) f).drop k = (rgL (sdB B) f).getD k 0 :: (rgL (sdB B) f).drop (k + 1) := by
        rw [List.drop_eq_getElem_cons (by omega)]; simp [hlr, hk1]
      rw [e, List.set_cons_zero, show chL f (sdB B) (k + 1) = chL f (sdB B) k ++ [chC f (sdB B) k] by simp [chL, List.range_succ], List.append_assoc]
      rfl
  · have hke : k = sdB B + 1 := by omega
    subst hke
    rw [List.drop_eq_nil_of_le (by omega), List.append_nil]
    have hj := justSoManyY_spec f (sdB B) hsd.1 hsd.2
    have hl2 := hL_len (chC f (sdB B)) (sdB B) (sdB B + 1)
    repeat (first | (refine step_ops ?_; (first | (refine m_mov (by conv => lhs; whnf) ?_) | (refine m_lss rfl rfl ?_))) | refine end_ops ?_ | refine seq_ops ?_ | (refine cond_f rfl ?_ ?_; (· (refine decide_eq_false ?_; omega))) | refine AW_seq ?_ | refine norm_then ?_ | refine exit_then ?_ | refine exit_round ?_ | refine AW_exit ?_ | refine exit_block ?_)
    refine step_ops ?_
    refine m_callo hj (lends_cons (lend_sli (L := chL f (sdB B) (sdB B + 1)) rfl hlk.symm) lends_nil) (allv_ints _) ?_
    repeat (first | (refine step_ops ?_; (refine m_mov (by conv => lhs; whnf) ?_)) | refine end_ops ?_ | refine AW_ret ?_ | refine ret_done ?_)
    exact outs_ints rfl rfl rfl
theorem bdHit_spec (B : List UInt8) (h : GoodBd B) (hB : B.length ≤ 1048576) : Sp Tryd.prog 44 [str B] (newInts (hL (chC (rkN (fbB B) (sdB B)) (sdB B)) (sdB B) (sdB B + 1))) := by
  have hsd := good_sd h
  have hk := rooks0_spec B h hB
  have hle : ∀ k, rkN (fbB B) (sdB B) k ≤ 43046721 := fun k => rkG_le9 h (by omega) 0 k
  generalize rkN (fbB B) (sdB B) = f at *
  have hlr := rgL_len (sdB B) f
  have hl2 := hL_len (chC f (sdB B)) (sdB B) (sdB B + 1)
  refine spec_of Tryd.func44 rfl cc44 rfl ?_
  unfold ac44
  repeat (first | (refine step_ops ?_; (first | (refine m_mov (by conv => lhs; whnf) ?_) | (refine m_nils ?_))) | refine end_ops ?_ | refine seq_ops ?_)
  refine step_ops ?_; (apply m_call (bdSide_spec B hB)); (· repeat (first | exact lends_nil | (refine lends_cons ?_ ?_; (· exact lend_v))))
  repeat (first | (refine step_ops ?_; (refine m_mov (by conv => lhs; whnf) ?_)) | refine end_ops ?_ | refine seq_ops ?_)
  refine step_ops ?_; (apply m_call (hk)); (· repeat (first | exact lends_nil | (refine lends_cons ?_ ?_; (· exact lend_v))))
  repeat (first | (refine step_ops ?_; (first | (refine m_mov (by conv => lhs; whnf) ?_) | (refine m_add rfl rfl ?_ ?_ ?_; (· omega); (· omega)))) | refine end_ops ?_ | refine seq_ops ?_)
  refine step_ops ?_
  refine m_mk0 (n := sdB B) rfl rfl (by omega) (by omega) ?_
  repeat (first | (refine step_ops ?_; (refine m_mov (by conv => lhs; whnf) ?_)) | refine end_ops ?_ | refine seq_ops ?_ | refine AW_seq ?_ | refine AW_block ?_)
  refine AW_loop (α := Nat) (fun d => d ≤ sdB B + 1) (fun d => st [(0, str B), (3, .i (sdB B : Nat)), (4, newInts (rgL (sdB B) f)), (5, .sl 15 1 0 (sdB B + 1)), (6, .i (((sdB B + 1 - d : Nat) : Int) - 1))] [(15, (true, (List.replicate (sdB B + 1 - d) 0 ++ hL (chC f (sdB B)) (sdB B) d).map AV.i))]) (fun d => sdB B + 1 - d) 0 (by omega) (weak_st ?_ ?_ rfl rfl) ?_
  · (repeat' (first | exact trivial | refine And.intro ?_ ?_)) <;> (first | rfl | skip)
    show AV.i (sdB B : Nat) = AV.i (((sdB B + 1 - 0 : Nat) : Int) - 1)
    exact congrArg AV.i (by omega)
  · (repeat' (first | exact trivial | refine And.intro ?_ ?_)) <;> (first | rfl | skip)
    show some (true, List.map AV.i (rgL (sdB B) fun _ => 0)) = some (true, List.map AV.i (List.replicate (sdB B + 1) 0 ++ []))
    rw [List.append_nil, rgL_zero]
  intro d hd
  unfold newInts
  have hll := hL_len (chC f (sdB B)) (sdB B) d
  by_cases hc : d < sdB B + 1
  · obtain ⟨k, hk⟩ : ∃ k, sdB B - d = k := ⟨_, rfl⟩
    have hkd : sdB B + 1 - d = k + 1 := by omega
    have g0 := rgL_get (n := sdB B) (k := k) f (by omega)
    have hb := chC_le (f := f) (n := sdB B) (k := k) (hle k) hsd.2
    unfold chC at hb
    rw [← g0] at hb
    rw [hkd, show ((k + 1 : Nat) : Int) - 1 = (k : Int) by omega]
    repeat (first | ((first | refine step_ops ?_ | refine step_tree ?_); (first | (refine m_mov (by conv => lhs; whnf) ?_) | (refine m_geq rfl rfl ?_) | (refine m_sub rfl rfl ?_ ?_ ?_; (· omega); (· omega)) | (refine m_idx1_ro rfl rfl ?_ ?_; (· omega)) | (refine m_ld_rpi rfl ?_ ?_; (· omega)))) | refine end_ops ?_ | refine seq_ops ?_ | refine seq_tree ?_ | (refine cond_t rfl ?_ ?_; (· rfl)) | refine skip_then ?_ | refine AW_seq ?_ | refine AW_block ?_)
    rw [show ((sdB B : Nat) : Int) - (k : Int) = ((sdB B - k : Nat) : Int) by omega]
    refine step_tree ?_; (apply m_call (exTimes_spec (sdB B - k) (by omega))); (· repeat (first | exact lends_nil | (refine lends_cons ?_ ?_; (· exact lend_v))))
    repeat (first | ((first | refine step_ops ?_ | refine step_tree ?_); (first | (refine m_mov (by conv => lhs; whnf) ?_) | (refine m_add rfl rfl ?_ ?_ ?_; (· omega); (· omega)) | (refine m_mul rfl rfl ?_ ?_ ?_; (· first | omega | (simp; done)); (· first | omega | (simp; done))))) | refine end_ops ?_ | refine seq_ops ?_ | refine end_tree ?_ | refine AW_seq ?_ | refine AW_block ?_)
    refine AW_loop (α := Nat) (fun j => j ≤ d) (fun j => st [(0, str B), (3, .i (sdB B : Nat)), (4, .ro true 1 ((rgL (sdB B) f).map AV.i) (rgL (sdB B) f).length), (5, .sl 15 1 0 (sdB B + 1)), (6, .i k), (7, .i (hF (chC f (sdB B) k) k (hL (chC f (sdB B)) (sdB B) d) j)), (8, .i ((k + 1 + j : Nat) : Int))]
      [(15, (true, (List.replicate (k + 1) 0 ++ hL (chC f (sdB B)) (sdB B) d).map AV.i))]) (fun j => d - j) 0 (by omega) (weak_st ?_ ?_ rfl rfl) ?_
    · (repeat' (first | exact trivial | refine And.intro ?_ ?_)) <;> (first | rfl | skip)
      show AV.i ((rgL (sdB B) f).getD k 0 * fac (sdB B - k)) = AV.i (chC f (sdB B) k)
      rw [g0]
      rfl
    · (repeat' (first | exact trivial | refine And.intro ?_ ?_)) <;> (first | rfl | skip)
    intro j hj
    have hM : (List.replicate (k + 1) 0 ++ hL (chC f (sdB B)) (sdB B) d).length = sdB B + 1 := by
      rw [List.length_append, List.length_replicate, hll]; omega
    by_cases hc2 : j < d
    · have g2 : (List.replicate (k + 1) 0 ++ hL (chC f (sdB B)) (sdB B) d).getD (k + 1 + j) 0 = (hL (chC f (sdB B)) (sdB B) d).getD j 0 := by
        rw [List.getD_eq_getElem?_getD, List.getElem?_append_right (by simp), List.length_replicate, show k + 1 + j - (k + 1) = j by omega]; rfl
      repeat (first | ((first | refine step_ops ?_ | refine step_tree ?_); (first | (refine m_mov (by conv => lhs; whnf) ?_) | (refine m_leq rfl rfl ?_))) | refine end_ops ?_ | refine seq_ops ?_ | refine AW_tree ?_ | (refine cond_t rfl ?_ ?_; (· (refine decide_eq_true ?_; omega))) | refine skip_then ?_ | refine AW_seq ?_ | refine AW_block ?_)
      refine step_tree ?_; (apply m_call (exChooseY_spec (k + 1 + j) k (by omega) (by omega))); (· repeat (first | exact lends_nil | (refine lends_cons ?_ ?_; (· exact lend_v))))
      repeat (refine step_tree ?_; (first | (refine m_mov (by conv => lhs; whnf) ?_) | (refine m_idx1_sl rfl rfl ?_ ?_; (· omega)) | (refine m_ld_pti rfl (by rfl) ?_ ?_; (· first | omega | (simp; omega)))))
      refine step_tree ?_
      refine m_mulw rfl rfl ?_
      refine step_tree ?_
      refine m_subw rfl rfl ?_
      repeat (first | ((first | refine step_ops ?_ | refine step_tree ?_); (first | (refine m_mov (by conv => lhs; whnf) ?_) | (refine m_add rfl rfl ?_ ?_ ?_; (· omega); (· omega)))) | refine end_ops ?_ | refine AW_ops ?_ | refine end_tree ?_ | refine norm_then ?_ | refine norm_block ?_)
      refine next_round (j + 1) (by omega) (weak_st ?_ ?_ rfl rfl) (by omega)
      · (repeat' (first | exact trivial | refine And.intro ?_ ?_)) <;> (first | rfl | skip)
        rw [show hF (chC f (sdB B) k) k (hL (chC f (sdB B)) (sdB B) d) (j + 1) = w64 (hF (chC f (sdB B) k) k (hL (chC f (sdB B)) (sdB B) d) j - w64 (chy (k + 1 + j) k k * (List.replicate (k + 1) 0 ++ hL (chC f (sdB B)) (sdB B) d).getD (k + 1 + j) 0)) from by rw [g2]; rfl]
        rfl
      · (repeat' (first | exact trivial | refine And.intro ?_ ?_)) <;> (first | rfl | skip)
    · obtain rfl : j = d := by omega
      repeat (first | (refine step_ops ?_; (first | (refine m_mov (by conv => lhs; whnf) ?_) | (refine m_leq rfl rfl ?_) | (refine m_sub rfl rfl ?_ ?_ ?_; (· omega); (· omega)) | (refine m_idx1_sl rfl rfl ?_ ?_; (· omega)) | (apply m_st; (· rfl); (· rfl); (· rfl); (· first | omega | (simp; done) | (simp; omega)); (· rfl)))) | refine end_ops ?_ | refine seq_ops ?_ | refine AW_ops ?_ | (refine cond_f rfl ?_ ?_; (· (refine decide_eq_false ?_; omega))) | refine AW_seq ?_ | refine norm_then ?_ | refine exit_then ?_ | refine norm_block ?_ | refine exit_round ?_ | refine AW_exit ?_ | refine exit_block ?_)
      refine next_round (j + 1) (by omega) (weak_st ?_ ?_ rfl rfl) (by omega)
      · (repeat' (first | exact trivial | refine And.intro ?_ ?_)) <;> (first | rfl | skip)
        show AV.i ((k : Int) - 1) = AV.i (((sdB B + 1 - (j + 1) : Nat) : Int) - 1)
        exact congrArg AV.i (by omega)
      · (repeat' (first | exact trivial | refine And.intro ?_ ?_)) <;> (first | rfl | skip)
        show some (true, List.set (List.map AV.i _) _ (AV.i _)) = some (true, List.map AV.i _)
        rw [← List.map_set, hL, hk, show sdB B + 1 - (j + 1) = k by omega, List.set_append_left _ _ (by simp), List.replicate_succ', List.set_append_right _ _ (by simp), List.length_replicate, Nat.sub_self, List.set_cons_zero, List.append_assoc]
        rfl
  · obtain rfl : d = sdB B + 1 := by omega
    rw [Nat.sub_self]
    repeat (first | (refine step_ops ?_; (first | (refine m_mov (by conv => lhs; whnf) ?_) | (refine m_geq rfl rfl ?_))) | refine end_ops ?_ | refine seq_ops ?_ | (refine cond_f rfl ?_ ?_; (· rfl)) | refine AW_seq ?_ | refine AW_ret ?_ | refine ret_done ?_ | refine norm_then ?_ | refine exit_then ?_ | refine exit_round ?_ | refine AW_exit ?_ | refine exit_block ?_)
    exact outs_ints rfl (by simp) hl2.symm
end Go.Proofs.YtngfogpbljconaaDoor
namespace Go.Am
variable [Go.Am.CodeBlk]
theorem fc_fac : ∀ n < 13, ((fcN n : Nat) : Int) = fac n := by decide +kernel
theorem chy_bi : ∀ n < 9, ∀ k < n + 1, chy n k k = ((bi n k : Nat) : Int) := by decide +kernel
theorem fcN_le8 : ∀ n < 9, fcN n ≤ 40320 := by decide +kernel
/-- The exchanges of all that hit so often. -/
def hitX (fb : Nat → Nat → Bool) (n k : Nat) : Nat := hitW fb n n 0 k
theorem hit_eq (fb : Nat → Nat → Bool) (n j : Nat) : sumN (n + 1) (fun k => bi k j * hitX fb n k) = rkN fb n j * fcN (n - j) := hits_rooks fb n n 0 j (free_all n)
/-- All of them; weighed; those that hit always. -/
theorem hit_all (fb : Nat → Nat → Bool) (n : Nat) : sumN (n + 1) (fun k => hitX fb n k) = fcN n := by
  have h := hit_eq fb n 0
  rw [show rkN fb n 0 = 1 from rkG_zero fb n n 0, Nat.one_mul] at h
  rw [← show fcN (n - 0) = fcN n from rfl, ← h]
  exact sumN_congr fun k _ => by cases k <;> simp [bi]
theorem bi_one : ∀ k, bi k 1 = k
  | 0 => rfl
  | k + 1 => by rw [bi, bi_one k]; cases k <;> simp [bi] <;> omega
theorem hit_weighed (fb : Nat → Nat → Bool) (n : Nat) : sumN (n + 1) (fun k => k * hitX fb n k) = rkN fb n 1 * fcN (n - 1) := by
  rw [← hit_eq fb n 1]
  exact sumN_congr fun k _ => by rw [bi_one]
theorem hit_last (fb : Nat → Nat → Bool) (n : Nat) : hitX fb n n = rkN fb n n := by
  have h := hit_eq fb n n
  rw [Nat.sub_self, show fcN 0 = 1 from rfl, Nat.mul_one, sumN, sumN_congr (g := fun _ => 0) fun k hk => by rw [bi_big k n hk, Nat.zero_mul], sumN_zero, bi_self] at h
  omega
theorem sumN_part (f : Nat → Nat) (k : Nat) : ∀ d, sumN (k + d) f = sumN k f + sumN d fun j => f (k + j)
  | 0 => by simp [sumN]
  | d + 1 => by rw [← Nat.add_assoc, sumN, sumN_part f k d, sumN]; omega
theorem sumN_at {f : Nat → Nat} : ∀ {n k : Nat}, k < n → f k ≤ sumN n f
  | n + 1, k, h => by
    rw [sumN]
    by_cases hk : k = n
    · subst hk; omega
    · have := sumN_at (f := f) (show k < n by omega)
      omega
theorem hit_le (fb : Nat → Nat → Bool) {n k : Nat} (h8 : n ≤ 8) (hk : k ≤ n) : hitX fb n k ≤ 40320 := by
  have h := sumN_at (f := fun k => hitX fb n k) (show k < n + 1 by omega)
  rw [hit_all] at h
  have := fcN_le8 n (by omega)
  omega
/-- What is left of those chosen of k. -/
theorem hit_left (fb : Nat → Nat → Bool) {n k : Nat} (hk : k ≤ n) : hitX fb n k + sumN (n - k) (fun j => bi (k + 1 + j) k * hitX fb n (k + 1 + j)) = rkN fb n k * fcN (n - k) := by
  have h := hit_eq fb n k
  rw [show n + 1 = k + ((n - k) + 1) by omega, sumN_part, sumN_congr (g := fun _ => 0) fun j hj => by rw [bi_big j k hj, Nat.zero_mul], sumN_zero, sumN_succ'] at h
  rw [← h, show k + 0 = k from rfl, bi_self]
  have : sumN (n - k) (fun j => bi (k + (j + 1)) k * hitX fb n (k + (j + 1))) = sumN (n - k) (fun j => bi (k + 1 + j) k * hitX fb n (k + 1 + j)) := sumN_congr fun j _ => by rw [show k + (j + 1) = k + 1 + j by omega]
  omega
theorem w64_in {x : Int} (h0 : -9223372036854775808 ≤ x) (h1 : x ≤ 9223372036854775807) : w64 x = x := by
  unfold w64
  rw [IntKind.wrap_i64]
  omega
/-- The last d of the numbers of hits. -/
def hitLs (fb : Nat → Nat → Bool) (n d : Nat) : List Int := (List.range d).map fun i => ((hitX fb n (n + 1 - d + i) : Nat) : Int)
theorem hitLs_get (fb : Nat → Nat → Bool) {n d j : Nat} (h : j < d) : (hitLs fb n d).getD j 0 = ((hitX fb n (n + 1 - d + j) : Nat) : Int) := by simp [hitLs, h]
theorem hitLs_succ (fb : Nat → Nat → Bool) {n d : Nat} (h : d ≤ n) : hitLs fb n (d + 1) = ((hitX fb n (n - d) : Nat) : Int) :: hitLs fb n d := by
  unfold hitLs
  rw [List.range_succ_eq_map, List.map_cons, List.map_map, show n + 1 - (d + 1) + 0 = n - d by omega]
  congr 1
  refine List.map_congr_left fun i _ => ?_
  show ((hitX fb n (n + 1 - (d + 1) + (i + 1)) : Nat) : Int) = _
  rw [show n + 1 - (d + 1) + (i + 1) = n + 1 - d + i by omega]
theorem bi_le8 : ∀ n < 9, ∀ k < n + 1, bi n k ≤ 70 := by decide +kernel
theorem hF_part (fb : Nat → Nat → Bool) {n k : Nat} (h8 : n ≤ 8) (hk : k ≤ n) : ∀ j, j ≤ n - k →
    hF (chC (rkN fb n) n k) k (hitLs fb n (n - k)) j = ((rkN fb n k * fcN (n - k) : Nat) : Int) - ((sumN j (fun j => bi (k + 1 + j) k * hitX fb n (k + 1 + j)) : Nat) : Int)
  | 0, _ => by
    rw [hF, chC, ← fc_fac (n - k) (by omega)]
    simp [sumN]
  | j + 1, h => by
    have hl := hit_left fb hk
    have hsum : sumN (n - k) (fun j => bi (k + 1 + j) k * hitX fb n (k + 1 + j)) = sumN (j + 1) (fun j => bi (k + 1 + j) k * hitX fb n (k + 1 + j)) + sumN (n - k - (j + 1)) (fun i => bi (k + 1 + (j + 1 + i)) k * hitX fb n (k + 1 + (j + 1 + i))) := by
      rw [← sumN_part (fun j => bi (k + 1 + j) k * hitX fb n (k + 1 + j)), show j + 1 + (n - k - (j + 1)) = n - k by omega]
    have htot : rkN fb n k * fcN (n - k) ≤ 43046721 * 40320 := by
      have h1 : rkN fb n k ≤ (n + 1) ^ n := rkG_le n 0 k
      have h2 : (n + 1) ^ n ≤ (8 + 1) ^ 8 := Nat.le_trans (Nat.pow_le_pow_left (show n + 1 ≤ 8 + 1 by omega) n) (Nat.pow_le_pow_right (by omega) h8)
      exact Nat.mul_le_mul (by omega) (fcN_le8 _ (by omega))
    have hb := bi_le8 (k + 1 + j) (by omega) k (by omega)
    have hh := hit_le fb (k := k + 1 + j) h8 (by omega)
    have hp : bi (k + 1 + j) k * hitX fb n (k + 1 + j) ≤ 70 * 40320 := Nat.mul_le_mul hb hh
    rw [hF, hF_part fb h8 hk j (by omega), hitLs_get fb (show j < n - k by omega), show n + 1 - (n - k) + j = k + 1 + j by omega, chy_bi (k + 1 + j) (by omega) k (by omega)]
    have e1 : ((bi (k + 1 + j) k : Nat) : Int) * ((hitX fb n (k + 1 + j) : Nat) : Int) = ((bi (k + 1 + j) k * hitX fb n (k + 1 + j) : Nat) : Int) := (Int.natCast_mul _ _).symm
    rw [e1]
    have es : sumN (j + 1) (fun j => bi (k + 1 + j) k * hitX fb n (k + 1 + j)) = sumN j (fun j => bi (k + 1 + j) k * hitX fb n (k + 1 + j)) + bi (k + 1 + j) k * hitX fb n (k + 1 + j) := rfl
    rw [es] at hsum ⊢
    generalize bi (k + 1 + j) k * hitX fb n (k + 1 + j) = p at *
    generalize sumN j (fun j => bi (k + 1 + j) k * hitX fb n (k + 1 + j)) = q at *
    generalize rkN fb n k * fcN (n - k) = T at *
    rw [w64_in (x := ((p : Nat) : Int)) (by omega) (by omega), w64_in (by omega) (by omega)]
    omega
/-- The numbers of hits are those of the exchanges. -/
theorem hL_hits (fb : Nat → Nat → Bool) {n : Nat} (h8 : n ≤ 8) : ∀ d, d ≤ n + 1 → hL (chC (rkN fb n) n) n d = hitLs fb n d
  | 0, _ => rfl
  | d + 1, h => by
    rw [hL, hL_hits fb h8 d (by omega), hitLs_succ fb (show d ≤ n by omega)]
    congr 1
    obtain ⟨k, hk⟩ : ∃ k, n - d = k := ⟨_, rfl⟩
    have hd : d = n - k := by omega
    have hp := hF_part fb h8 (show k ≤ n by omega) (n - k) (Nat.le_refl _)
    have hl := hit_left fb (show k ≤ n by omega)
    rw [hk, hd, hp]
    omega
end Go.Am
namespace Go.Proofs.YtngfogpbljconaaDoor
variable [Go.Am.CodeBlk]
open Go.Am
attribute [local irreducible] AW Outs Weak Lends Lend Sp aops atree aop1 Then Round InBlock Done
/-- A board and an exchange of its side. -/
def Asked (B : List UInt8) (L : List Int) : Prop := GoodBd B ∧ IsEx L ∧ L.length = sdB B
instance (B : List UInt8) (L : List Int) : Decidable (Asked B L) := inferInstanceAs (Decidable (_ ∧ _))
theorem asked_at {B : List UInt8} {L : List Int} (h : Asked B L) {k : Nat} (hk : k < L.length) : ∃ j : Nat, L.getD k 0 = j ∧ j < sdB B := by
  have hr := h.2.1.2.2.1 _ (getD_mem hk)
  obtain ⟨q, hq⟩ := Int.eq_ofNat_of_zero_le hr.1
  exact ⟨q, hq, by have := h.2.2; omega⟩
theorem bdAsked_spec (B : List UInt8) (L : List Int) (hB : B.length ≤ 1048576) (hL : L.length ≤ 1048576) : Sp Tryd.prog 37 [str B, ints L] (.b (decide (Asked B L))) := by
  refine spec_of Tryd.func37 rfl cc37 rfl ?_
  unfold ac37
  by_cases h1 : GoodBd B
  · by_cases h2 : IsEx L
    · repeat (first | (refine step_ops ?_; (refine m_mov (by conv => lhs; whnf) ?_)) | refine end_ops ?_ | refine seq_ops ?_)
      (refine step_ops ?_); (apply m_call (bdGood_spec B hB)); (· repeat (first | exact lends_nil | (refine lends_cons ?_ ?_; (· exact lend_v))))
      repeat (refine step_ops ?_; ((try (refine g_yes rfl ?_ ?_; (· (refine decide_eq_true ?_; assumption)))); (refine m_mov (by conv => lhs; whnf) ?_)))
      (refine step_ops ?_); (refine g_yes rfl ?_ ?_; (· first | ((refine decide_eq_true ?_; assumption)) | (fail)); (apply m_call (exGood_spec L hL))); (· repeat (first | exact lends_nil | (refine lends_cons ?_ ?_; (· (refine lend_ints ?_; first | rfl | omega)))))
      repeat (refine step_ops ?_; ((try (refine g_yes rfl ?_ ?_; (· (refine decide_eq_true ?_; assumption)))); (first | (refine m_mov (by conv => lhs; whnf) ?_) | (refine m_len_ro rfl ?_) | (refine m_pick_t rfl ?_ (by conv => lhs; whnf) ?_; (· (refine decide_eq_true ?_; assumption))))))
      (refine step_ops ?_); (refine g_yes rfl ?_ ?_; (· first | ((refine decide_eq_true ?_; assumption)) | (fail)); (apply m_call (bdSide_spec B hB))); (· repeat (first | exact lends_nil | (refine lends_cons ?_ ?_; (· exact lend_v))))
      repeat (first | (refine step_ops ?_; ((try (refine g_yes rfl ?_ ?_; (· (refine decide_eq_true ?_; assumption)))); (first | (refine m_mov (by conv => lhs; whnf) ?_) | (refine m_eql rfl rfl ?_) | (refine m_pick_t rfl ?_ (by conv => lhs; whnf) ?_; (· (refine decide_eq_true ?_; assumption)))))) | refine end_ops ?_ | refine AW_ret ?_ | refine ret_done ?_)
      exact outs_b (by simp [Asked, h1, h2]; omega)
    · repeat (first | (refine step_ops ?_; (refine m_mov (by conv => lhs; whnf) ?_)) | refine end_ops ?_ | refine seq_ops ?_)
      (refine step_ops ?_); (apply m_call (bdGood_spec B hB)); (· repeat (first | exact lends_nil | (refine lends_cons ?_ ?_; (· exact lend_v))))
      repeat (refine step_ops ?_; ((try (refine g_yes rfl ?_ ?_; (· (refine decide_eq_true ?_; assumption)))); (refine m_mov (by conv => lhs; whnf) ?_)))
      (refine step_ops ?_); (refine g_yes rfl ?_ ?_; (· first | ((refine decide_eq_true ?_; assumption)) | (fail)); (apply m_call (exGood_spec L hL))); (· repeat (first | exact lends_nil | (refine lends_cons ?_ ?_; (· (refine lend_ints ?_; first | rfl | omega)))))
      repeat (first | (refine step_ops ?_; (first | (first | (refine m_mov (by conv => lhs; whnf) ?_) | (refine m_pick_t rfl ?_ (by conv => lhs; whnf) ?_; (· (refine decide_eq_true ?_; assumption))) | (refine m_pick_f rfl ?_ (by conv => lhs; whnf) ?_; (· (refine decide_eq_false ?_; assumption)))) | (refine g_noT rfl ?_ ?_; (· (refine decide_eq_false ?_; assumption))))) | refine end_ops ?_ | refine AW_ret ?_ | refine ret_done ?_)
      exact outs_b (by simp [Asked, h2])
  · repeat (first | (refine step_ops ?_; (refine m_mov (by conv => lhs; whnf) ?_)) | refine end_ops ?_ | refine seq_ops ?_)
    (refine step_ops ?_); (apply m_call (bdGood_spec B hB)); (· repeat (first | exact lends_nil | (refine lends_cons ?_ ?_; (· exact lend_v))))
    repeat (first | (refine step_ops ?_; (first | (first | (refine m_mov (by conv => lhs; whnf) ?_) | (refine m_pick_f rfl ?_ (by conv => lhs; whnf) ?_; (· first | rfl | (refine decide_eq_false ?_; assumption)))) | (refine g_noT rfl ?_ ?_; (· first | rfl | (refine decide_eq_false ?_; assumption))))) | refine end_ops ?_ | refine AW_ret ?_ | refine ret_done ?_)
    exact outs_b (by simp [Asked, h1])
/-- A board that was read for an exchange. -/
def bdF (B : List UInt8) (L : List Int) : AV := .tup [if Asked B L then .agg [.i (sdB B : Nat), .rmp true (mkEs (plB B)) (plB B).length] else .agg [.i 0, .v (.map none)], .b (decide (Asked B L))]
theorem readBoardFor_spec (B : List UInt8) (L : List Int) (hB : B.length ≤ 1048576) (hL : L.length ≤ 1048576) : Sp Tryd.prog 34 [str B, ints L] (bdF B L) := by
  have hr := readBoard_spec B hB
  unfold bdR bdV at hr
  unfold bdF
  refine specG_of Tryd.func34 rfl cc34 (by set_option maxRecDepth 100000 in rfl) ?_
  unfold ac34
  by_cases h1 : GoodBd B
  · rw [if_pos h1] at hr
    by_cases h2 : IsEx L
    · by_cases h3 : L.length = sdB B
      · have h : Asked B L := ⟨h1, h2, h3⟩
        rw [if_pos h, decide_eq_true h]
        repeat (first | (refine step_ops ?_; (first | (refine m_mov (by conv => lhs; whnf) ?_) | (refine m_alloc ?_))) | refine end_ops ?_ | refine seq_ops ?_)
        (refine step_ops ?_); (apply m_call (hr)); (· repeat (first | exact lends_nil | (refine lends_cons ?_ ?_; (· exact lend_v))))
        repeat (first | (refine step_ops ?_; ((try (refine g_yes rfl ?_ ?_; (· (simp [*]; done)))); (first | (refine m_mov (by conv => lhs; whnf) ?_) | (refine m_not rfl ?_) | (refine m_ext rfl rfl ?_) | (refine m_alloc ?_) | (refine m_stall rfl rfl rfl ?_ ?_ ?_ ?_; (· first | rfl | (simp [*]; done)); (· first | rfl | (simp [*]; done)); (· first | rfl | (simp [cellOk, Value.oneCell']; done)))))) | refine end_ops ?_ | refine seq_ops ?_ | refine AW_seq ?_)
        (refine step_ops ?_); (refine g_yes rfl ?_ ?_; (· first | ((simp [*]; done)) | (fail)); (apply m_call (implIsExchange_spec L hL))); (· repeat (first | exact lends_nil | (refine lends_cons ?_ ?_; (· (refine lend_ints ?_; first | rfl | omega)))))
        repeat (first | (refine step_ops ?_; ((try (refine g_yes rfl ?_ ?_; (· (simp [*]; done)))); (first | (refine m_mov (by conv => lhs; whnf) ?_) | (refine m_neq rfl rfl ?_) | (refine m_not rfl ?_) | (refine m_len_ro rfl ?_) | (apply m_ld_pt; (· rfl); (· rfl); (· rfl)) | (refine m_pick_f rfl ?_ (by conv => lhs; whnf) ?_; (· (refine nf ?_; assumption))) | (refine m_fa rfl ?_) | (refine m_ldall rfl rfl ?_ ?_; (· first | rfl | (simp; done) | (simp [*]; done))) | (refine m_stall rfl rfl rfl ?_ ?_ ?_ ?_; (· first | rfl | (simp [*]; done)); (· first | rfl | (simp [*]; done)); (· first | rfl | (simp [cellOk, Value.oneCell']; done)))))) | refine end_ops ?_ | refine seq_ops ?_ | (refine cond_f rfl ?_ ?_; (· (refine decide_eq_false ?_; omega))) | refine skip_then ?_ | refine AW_ret ?_)
        refine ret_doneg2 rfl rfl rfl ?_
        exact outs_tup2 (outs_agg2 (outs_i rfl) outs_rmp) (outs_b rfl)
      · have h : ¬ Asked B L := fun h => h3 h.2.2
        rw [if_neg h, decide_eq_false h]
        repeat (first | (refine step_ops ?_; (first | (refine m_mov (by conv => lhs; whnf) ?_) | (refine m_alloc ?_))) | refine end_ops ?_ | refine seq_ops ?_)
        (refine step_ops ?_); (apply m_call (hr)); (· repeat (first | exact lends_nil | (refine lends_cons ?_ ?_; (· exact lend_v))))
        repeat (first | (refine step_ops ?_; ((try (refine g_yes rfl ?_ ?_; (· (simp [*]; done)))); (first | (refine m_mov (by conv => lhs; whnf) ?_) | (refine m_not rfl ?_) | (refine m_ext rfl rfl ?_) | (refine m_alloc ?_) | (refine m_stall rfl rfl rfl ?_ ?_ ?_ ?_; (· first | rfl | (simp [*]; done)); (· first | rfl | (simp [*]; done)); (· first | rfl | (simp [cellOk, Value.oneCell']; done)))))) | refine end_ops ?_ | refine seq_ops ?_ | refine AW_seq ?_)
        (refine step_ops ?_); (refine g_yes rfl ?_ ?_; (· first | ((simp [*]; done)) | (fail)); (apply m_call (implIsExchange_spec L hL))); (· repeat (first | exact lends_nil | (refine lends_cons ?_ ?_; (· (refine lend_ints ?_; first | rfl | omega)))))
        repeat (first | (refine step_ops ?_; ((try (refine g_yes rfl ?_ ?_; (· (simp [*]; done)))); (first | (refine m_mov (by conv => lhs; whnf) ?_) | (refine m_neq rfl rfl ?_) | (refine m_not rfl ?_) | (refine m_len_ro rfl ?_) | (apply m_ld_pt; (· rfl); (· rfl); (· rfl)) | (refine m_pick_f rfl ?_ (by conv => lhs; whnf) ?_; (· (refine nf ?_; assumption))) | (refine m_fa rfl ?_) | (refine m_bld rfl ?_) | (refine m_stall rfl rfl rfl ?_ ?_ ?_ ?_; (· first | rfl | (simp [*]; done)); (· first | rfl | (simp [*]; done)); (· first | rfl | (simp [cellOk, Value.oneCell']; done)))))) | refine end_ops ?_ | refine seq_ops ?_ | (refine cond_t rfl ?_ ?_; (· (refine decide_eq_true ?_; omega))) | refine AW_ret ?_ | refine ret_then ?_)
        refine ret_doneg2 rfl rfl rfl ?_
        exact outs_tup2 (outs_agg rfl) (outs_b rfl)
    · have h : ¬ Asked B L := fun h => h2 h.2.1
      rw [if_neg h, decide_eq_false h]
      repeat (first | (refine step_ops ?_; (first | (refine m_mov (by conv => lhs; whnf) ?_) | (refine m_alloc ?_))) | refine end_ops ?_ | refine seq_ops ?_)
      (refine step_ops ?_); (apply m_call (hr)); (· repeat (first | exact lends_nil | (refine lends_cons ?_ ?_; (· exact lend_v))))
      repeat (first | (refine step_ops ?_; ((try (refine g_yes rfl ?_ ?_; (· (simp [*]; done)))); (first | (refine m_mov (by conv => lhs; whnf) ?_) | (refine m_not rfl ?_) | (refine m_ext rfl rfl ?_) | (refine m_alloc ?_) | (refine m_stall rfl rfl rfl ?_ ?_ ?_ ?_; (· first | rfl | (simp [*]; done)); (· first | rfl | (simp [*]; done)); (· first | rfl | (simp [cellOk, Value.oneCell']; done)))))) | refine end_ops ?_ | refine seq_ops ?_ | refine AW_seq ?_)
      (refine step_ops ?_); (refine g_yes rfl ?_ ?_; (· first | ((simp [*]; done)) | (fail)); (apply m_call (implIsExchange_spec L hL))); (· repeat (first | exact lends_nil | (refine lends_cons ?_ ?_; (· (refine lend_ints ?_; first | rfl | omega)))))
      repeat (first | (refine step_ops ?_; (first | ((try (refine g_yes rfl ?_ ?_; (· (simp [*]; done)))); (first | (refine m_mov (by conv => lhs; whnf) ?_) | (refine m_not rfl ?_) | (refine m_pick_t rfl ?_ (by conv => lhs; whnf) ?_; (· (refine nt ?_; assumption))) | (refine m_pick_f rfl ?_ (by conv => lhs; whnf) ?_; (· (refine nf ?_; assumption))) | (refine m_bld rfl ?_) | (refine m_stall rfl rfl rfl ?_ ?_ ?_ ?_; (· first | rfl | (simp [*]; done)); (· first | rfl | (simp [*]; done)); (· first | rfl | (simp [cellOk, Value.oneCell']; done))))) | (refine g_noF rfl ?_ ?_; (· (refine nt ?_; assumption))))) | refine end_ops ?_ | refine seq_ops ?_ | (refine cond_t rfl ?_ ?_; (· rfl)) | refine AW_ret ?_ | refine ret_then ?_)
      refine ret_doneg2 rfl rfl rfl ?_
      exact outs_tup2 (outs_agg rfl) (outs_b rfl)
  · rw [if_neg h1] at hr
    have h : ¬ Asked B L := fun h => h1 h.1
    rw [if_neg h, decide_eq_false h]
    repeat (first | (refine step_ops ?_; (first | (refine m_mov (by conv => lhs; whnf) ?_) | (refine m_alloc ?_))) | refine end_ops ?_ | refine seq_ops ?_)
    (refine step_ops ?_); (apply m_call (hr)); (· repeat (first | exact lends_nil | (refine lends_cons ?_ ?_; (· exact lend_v))))
    repeat (first | (refine step_ops ?_; (first | (first | (refine m_mov (by conv => lhs; whnf) ?_) | (refine m_not rfl ?_) | (refine m_pick_t rfl ?_ (by conv => lhs; whnf) ?_; (· first | rfl | (refine nt ?_; assumption))) | (refine m_ext rfl rfl ?_) | (refine m_alloc ?_) | (refine m_bld rfl ?_) | (refine m_stall rfl rfl rfl ?_ ?_ ?_ ?_; (· first | rfl | (simp [*]; done)); (· first | rfl | (simp [*]; done)); (· first | rfl | (simp [cellOk, Value.oneCell']; done)))) | (refine g_noF rfl ?_ ?_; (· first | rfl | (refine nt ?_; assumption))))) | refine end_ops ?_ | refine seq_ops ?_ | (refine cond_t rfl ?_ ?_; (· rfl)) | refine AW_seq ?_ | refine AW_ret ?_ | refine ret_then ?_)
    refine ret_doneg2 rfl rfl rfl ?_
    exact outs_tup2 (outs_agg rfl) (outs_b rfl)
end Go.Proofs.YtngfogpbljconaaDoor
