/- The abstract machine: strings by lists of bytes; the library's own entries; maps that are asked and written by keys of any kind; results of which some lie in cells. -/
import Derived.Test.YtojpcpdbnmnknaaDoorAmU
namespace Go.Am
variable {P : Program} {own : Bool} {d : Option Nat} {s : AS} {K : AS → Prop} {N : Nat}

section
variable {x y z : Opd} {A B : List UInt8}
theorem str_beq (A B : List UInt8) : ((⟨A.toArray⟩ : ByteArray).toList == (⟨B.toArray⟩ : ByteArray).toList) = decide (A = B) := by
  rw [ByteArray.toList_eq, ByteArray.toList_eq, Bool.eq_iff_iff]
  simp
theorem m_eqs (hx : s.ev x = str A) (hy : s.ev y = str B) (k : K (s.put d (.b (decide (A = B))))) : aop1 P own ⟨d, .bin .eql x y, none⟩ s K := by
  refine ⟨_, _, _, hx, hy, rfl, ?_⟩
  rw [str_beq]
  exact k
theorem m_neqs (hx : s.ev x = str A) (hy : s.ev y = str B) (k : K (s.put d (.b (!decide (A = B))))) : aop1 P own ⟨d, .bin .neq x y, none⟩ s K := by
  refine ⟨_, _, _, hx, hy, rfl, ?_⟩
  rw [str_beq]
  exact k
theorem m_eqk {q : IntKind} {a b : Int} (hx : s.ev x = .v (.int q a)) (hy : s.ev y = .v (.int q b)) (k : K (s.put d (.b (decide (a = b))))) : aop1 P own ⟨d, .bin .eql x y, none⟩ s K := by
  refine ⟨_, _, .bool (a == b), hx, hy, by simp [pbin], ?_⟩
  rw [show (a == b) = decide (a = b) from by rw [Bool.eq_iff_iff]; simp]
  exact k
theorem m_neqk {q : IntKind} {a b : Int} (hx : s.ev x = .v (.int q a)) (hy : s.ev y = .v (.int q b)) (k : K (s.put d (.b (decide (a ≠ b))))) : aop1 P own ⟨d, .bin .neq x y, none⟩ s K := by
  refine ⟨_, _, .bool (a != b), hx, hy, by simp [pbin], ?_⟩
  rw [show (a != b) = decide (a ≠ b) from by rw [Bool.eq_iff_iff]; simp]
  exact k
theorem bytes_extract (A : List UInt8) (l h : Nat) : (⟨A.toArray⟩ : ByteArray).extract l h = ⟨((A.drop l).take (h - l)).toArray⟩ := by
  apply ByteArray.ext
  rw [ByteArray.data_extract]
  apply Array.ext'
  rw [Array.toList_extract]
theorem m_scutb {l h : Nat} (hx : s.ev x = str A) (hl : s.ev y = .i (l : Nat)) (hh : s.ev z = .i (h : Nat)) (h1 : l ≤ h) (h2 : h ≤ A.length) (k : K (s.put d (str ((A.drop l).take (h - l))))) : aop1 P own ⟨d, .pu (.scut true true) [x, y, z], none⟩ s K :=
  m_scut_both hx hl hh h1 (by show h ≤ A.toArray.size; simpa using h2) (by rw [bytes_extract]; exact k)
theorem m_scutl {l : Nat} (hx : s.ev x = str A) (hl : s.ev y = .i (l : Nat)) (h1 : l ≤ A.length) (k : K (s.put d (str (A.drop l)))) : aop1 P own ⟨d, .pu (.scut true false) [x, y], none⟩ s K := by
  refine m_scut_lo hx hl (by show l ≤ A.toArray.size; simpa using h1) ?_
  rw [bytes_extract]
  have : (⟨A.toArray⟩ : ByteArray).size = A.length := by show A.toArray.size = _; simp
  rw [this, List.take_of_length_le (by simp)]
  exact k
theorem m_scuth {h : Nat} (hx : s.ev x = str A) (hh : s.ev y = .i (h : Nat)) (h1 : h ≤ A.length) (k : K (s.put d (str (A.take h)))) : aop1 P own ⟨d, .pu (.scut false true) [x, y], none⟩ s K := by
  refine m_scut_hi hx hh (by show h ≤ A.toArray.size; simpa using h1) ?_
  rw [bytes_extract, List.drop_zero, Nat.sub_zero]
  exact k
theorem m_xcall {f : FuncId} {fn : Func} {e : Array Value → Sem Value} {args : List Opd} {vs : List Value} {v : Value} (h1 : P.funcs[f]? = some fn) (h2 : (fn.name == "runtime.NumGoroutine") = false) (h3 : fn.body.isNone = true) (h4 : Extern.findNext fn = none) (h5 : Extern.find fn = some e)
    (h6 : args.map s.ev = vs.map AV.v) (h7 : ∀ w, (e vs.toArray).run P w = .ok v w) (k : K (s.put d (.v v))) : aop1 P own ⟨d, .xcall f args, none⟩ s K := ⟨fn, e, vs, v, h1, h2, h3, h4, h5, h6, h7, k⟩
end

theorem m_fa_rp {x : Opd} {off : Nat} {cs : List AV} (hx : s.ev x = .rp cs) (k : K (s.put d (.rp (cs.drop off)))) : aop1 P own ⟨d, .fa off x, none⟩ s K := .inr ⟨cs, hx, k⟩
theorem m_ldall_rp {x : Opd} {n : Nat} {cs : List AV} (hx : s.ev x = .rp cs) (hl : cs.length = n) (k : K (s.put d (.agg cs))) : aop1 P own ⟨d, .ld (some n) x, none⟩ s K := m_ldk_rp hx (by omega) (by rw [List.take_of_length_le (by omega)]; exact k)
/- Maps. -/
section
variable {x y i : Opd}
theorem m_mgetk {kt : TypeId} {zv : Value} {es : Array MapEntry} {clock : Nat} {kv : Value} {r : AV} {ok : Bool} (KL : WideMaps.KeyLaw P kt) (hm : MapAt s (s.ev x) es clock) (hi : exV (s.ev i) = some kv) (hk : ∃ l, keyOf P kt kv = some l) (hkeys : ∀ e ∈ es.toList, ∃ l, keyOf P kt e.key = some l)
    (h1 : ∀ e ∈ es.toList, e.key = kv → mres ok e.val true = r) (h2 : (∀ e ∈ es.toList, e.key ≠ kv) → mres ok zv false = r) (k : K (s.put d r)) : aop1 P own ⟨d, .mgetk kt zv ok x i, none⟩ s K :=
  ⟨KL, es, clock, kv, hm, hi, hk, hkeys, r, h1, h2, k⟩
theorem m_mrg {r q : Nat} {es : Array MapEntry} {clock : Nat} (hx : s.ev x = .mp q) (hne : q ≠ r) (hq : s.hp q = some (true, [.ob (.map es clock)]))
    (k : ∀ bm : Nat, K (((s.kill r).mem r (true, [.ob (.mapIter (some bm) clock #[] clock)])).put (some r) (.mit r (some q) bm #[] 0))) : aop1 P own ⟨some r, .mrg x, none⟩ s K :=
  ⟨r, rfl, .inl ⟨q, es, clock, hx, hne, hq, k⟩⟩
theorem m_mrgr {r : Nat} {fr : Bool} {es : Array MapEntry} {clock : Nat} (hx : s.ev x = .rmp fr es clock)
    (k : ∀ bm : Nat, K (((s.kill r).mem r (true, [.ob (.mapIter (some bm) clock #[] clock)])).put (some r) (.mit r none bm es clock))) : aop1 P own ⟨some r, .mrg x, none⟩ s K :=
  ⟨r, rfl, .inr ⟨fr, es, clock, hx, k⟩⟩
theorem m_mnx {r q bm ck0 since : Nat} {es0 : Array MapEntry} {seen : Array Nat} {c0 : Nat} {es : Array MapEntry} {clock : Nat} (hx : s.ev x = .mit r (some q) bm es0 ck0) (hr : s.hp r = some (true, [.ob (.mapIter (some bm) since seen c0)]))
    (hne : q ≠ r) (hq : s.hp q = some (true, [.ob (.map es clock)])) (hold : ∀ e ∈ es.toList, e.born < since) (hsc : since ≤ c0) (k1 : (∀ e ∈ es.toList, seen.contains e.born = true) → K (s.put d (.tup [.v (.bool false)])))
    (k2 : ∀ e ∈ es.toList, seen.contains e.born = false → K ((s.mem r (true, [.ob (.mapIter (some bm) since (seen.push e.born) clock)])).put d (.tup [.v (.bool true), .any, .any]))) : aop1 P own ⟨d, .mnx x, none⟩ s K :=
  ⟨r, some q, bm, es0, ck0, since, seen, c0, es, clock, hx, hr, .inl ⟨q, rfl, hne, hq⟩, hold, hsc, k1, k2⟩
theorem m_mnxr {r bm since : Nat} {seen : Array Nat} {c0 : Nat} {es : Array MapEntry} {clock : Nat} (hx : s.ev x = .mit r none bm es clock) (hr : s.hp r = some (true, [.ob (.mapIter (some bm) since seen c0)]))
    (hold : ∀ e ∈ es.toList, e.born < since) (hsc : since ≤ c0) (k1 : (∀ e ∈ es.toList, seen.contains e.born = true) → K (s.put d (.tup [.v (.bool false)])))
    (k2 : ∀ e ∈ es.toList, seen.contains e.born = false → K ((s.mem r (true, [.ob (.mapIter (some bm) since (seen.push e.born) clock)])).put d (.tup [.v (.bool true), .any, .any]))) : aop1 P own ⟨d, .mnx x, none⟩ s K :=
  ⟨r, none, bm, es, clock, since, seen, c0, es, clock, hx, hr, .inr ⟨rfl, rfl, rfl⟩, hold, hsc, k1, k2⟩
theorem m_ment {r q bm ck0 since : Nat} {es0 : Array MapEntry} {seen : Array Nat} {es : Array MapEntry} {clock : Nat} {e : MapEntry} {ka va : AV} (hx : s.ev x = .mit r (some q) bm es0 ck0)
    (hr : s.hp r = some (true, [.ob (.mapIter (some bm) since (seen.push e.born) clock)])) (hne : q ≠ r) (hq : s.hp q = some (true, [.ob (.map es clock)])) (he : e ∈ es.toList) (hn : (es.toList.map (·.born)).Nodup)
    (hka : exV ka = some e.key) (hva : exV va = some e.val) (k : K (s.put d (.tup [ka, va]))) : aop1 P own ⟨d, .ment x, none⟩ s K :=
  ⟨r, some q, bm, es0, ck0, since, seen, es, clock, e, ka, va, hx, hr, .inl ⟨q, rfl, hne, hq⟩, he, hn, hka, hva, k⟩
theorem m_mentr {r bm since : Nat} {seen : Array Nat} {es : Array MapEntry} {clock : Nat} {e : MapEntry} {ka va : AV} (hx : s.ev x = .mit r none bm es clock)
    (hr : s.hp r = some (true, [.ob (.mapIter (some bm) since (seen.push e.born) clock)])) (he : e ∈ es.toList) (hn : (es.toList.map (·.born)).Nodup)
    (hka : exV ka = some e.key) (hva : exV va = some e.val) (k : K (s.put d (.tup [ka, va]))) : aop1 P own ⟨d, .ment x, none⟩ s K :=
  ⟨r, none, bm, es, clock, since, seen, es, clock, e, ka, va, hx, hr, .inr ⟨rfl, rfl, rfl⟩, he, hn, hka, hva, k⟩
theorem m_mdel {kt : TypeId} {r : Nat} {es : Array MapEntry} {clock : Nat} {kv : Value} (KL : WideMaps.KeyLaw P kt) (hx : s.ev x = .mp r) (hr : s.hp r = some (true, [.ob (.map es clock)])) (hi : exV (s.ev i) = some kv) (hk : ∃ l, keyOf P kt kv = some l)
    (hks : ∀ e ∈ es.toList, ∃ l, keyOf P kt e.key = some l) (k1 : ∀ (n : Nat) (e : MapEntry), es.toList[n]? = some e → e.key = kv → K ((s.mem r (true, [.ob (.map (es.eraseIdxIfInBounds n) clock)])).put d (.tup [])))
    (k2 : (∀ e ∈ es.toList, e.key ≠ kv) → K ((s.mem r (true, [.ob (.map es clock)])).put d (.tup []))) : aop1 P own ⟨d, .mdel kt x i, none⟩ s K :=
  ⟨KL, r, es, clock, kv, hx, hr, hi, hk, hks, k1, k2⟩
theorem m_mnil {ne : Bool} {r : Nat} (hx : s.ev x = .mp r) (k : K (s.put d (.v (.bool ne)))) : aop1 P own ⟨d, .mnil ne x, none⟩ s K := ⟨.inl ⟨r, hx⟩, k⟩
theorem m_mnilr {ne fr : Bool} {es : Array MapEntry} {clock : Nat} (hx : s.ev x = .rmp fr es clock) (k : K (s.put d (.v (.bool ne)))) : aop1 P own ⟨d, .mnil ne x, none⟩ s K := ⟨.inr ⟨fr, es, clock, hx⟩, k⟩
theorem m_mputk {kt : TypeId} {r : Nat} {es : Array MapEntry} {clock : Nat} {kv v : Value} (KL : WideMaps.KeyLaw P kt) (hx : s.ev x = .mp r) (hr : s.hp r = some (true, [.ob (.map es clock)])) (hi : exV (s.ev i) = some kv) (hy : s.ev y = .v v) (hk : ∃ l, keyOf P kt kv = some l) (hkeys : ∀ e ∈ es.toList, ∃ l, keyOf P kt e.key = some l)
    (hnew : ∀ e ∈ es.toList, e.key ≠ kv) (k : K (s.mem r (true, [.ob (.map (es.push { key := kv, val := v, born := clock }) (clock + 1))]))) : aop1 P own ⟨none, .mputk kt x i y, none⟩ s K :=
  ⟨KL, r, es, clock, kv, v, hx, hr, hi, hy, hk, hkeys, fun n e he hk => absurd hk (hnew e (List.mem_of_getElem? he)), fun _ => k⟩
end
/-- Plain values, and maps that nobody writes. -/
def plainM : AV → Bool
  | .v _ => true
  | .rmp _ _ _ => true
  | _ => false
/-- Such a value, as somebody else sees it. -/
def unf : AV → AV
  | .rmp _ es clock => .rmp false es clock
  | x => x
theorem simL_rmp {C D : Ctx} (hh : C.heap = D.heap) (hr : ∀ b, C.ro b → D.ro b) : ∀ {l : List AV} {ys : List Value}, l.all plainM = true → SimL l C ys → SimL (l.map unf) D ys
  | [], _, _, _ => by simp [SimL]
  | _ :: _, [], _, h => by simp [SimL] at h
  | x :: l, y :: ys, h, hs => by
    simp only [List.all_cons, Bool.and_eq_true, SimL, List.map_cons] at h hs ⊢
    refine ⟨?_, simL_rmp hh hr h.2 hs.2⟩
    cases x <;> simp [plainM] at h
    · simpa [SimV, unf] using hs.1
    · have h1 := hs.1
      simp only [SimV, unf] at h1 ⊢
      obtain ⟨b, k1, k2, k3, _⟩ := h1
      exact ⟨b, k1, by rw [← hh]; exact k2, hr b k3, fun e => by cases e⟩
theorem lend_rmp {hp : Hp} {fr : Bool} {es : Array MapEntry} {clock : Nat} : Lend hp (.rmp fr es clock) (.rmp false es clock) := by
  intro w0 mu N tm w phi ro v hS hv
  simp only [SimV] at hv ⊢
  obtain ⟨b, k1, k2, k3, _⟩ := hv
  exact ⟨b, k1, k2, lt_of_get k2, fun e => by cases e⟩
theorem ob_at' {w0 w : World} {mu : Nat → Option Nat} {tm : Array Value} {phi : Nat → Option Nat} {ro : Nat → Prop} (hS : Sim w0 mu N s tm w phi ro) {r k : Nat} {es : Array MapEntry} {clock : Nat} (hr : s.hp r = some (true, [.ob (.map es clock)])) (hk : phi r = some k) :
    w.heap[k]? = some (.map es clock) ∧ (r < pbase → Mine w0 mu k) := by
  rcases hS.liv r _ hr with ⟨h1, _⟩ | ⟨b', cur, e, h1, h2, _, _, h5⟩ | ⟨b', o, h0, h1, h2, h3, h4, h5⟩
  · rw [h1] at hk; cases hk
  · exfalso
    simp only [SimR, if_true] at h5
    cases hc : cur.toList with
    | nil => rw [hc] at h5; simp [SimL] at h5
    | cons y ys => rw [hc] at h5; simp [SimL, SimV] at h5
  · rw [h1] at hk
    cases hk
    simp only [Prod.mk.injEq, List.cons.injEq, AV.ob.injEq, and_true, true_and] at h0
    subst h0
    exact ⟨h2, fun hp => (h5.resolve_right fun h => by omega).2⟩
/-- What a callee sees of plain memory. -/
abbrev ctxAll (w : World) : Ctx := { heap := w.heap, ro := fun b => b < w.heap.size, base := w.heap.size, phi := fun _ => none, live := fun _ => false, loc := false }
theorem lend_map {hp : Hp} {r : Nat} {es : Array MapEntry} {clock : Nat} (hr : hp r = some (true, [.ob (.map es clock)])) : Lend hp (.mp r) (.rmp false es clock) := by
  intro w0 mu N tm w phi ro v hS hv
  simp only [SimV] at hv ⊢
  obtain ⟨_, _, b, k1, k2⟩ := hv
  have k3 := (ob_at' hS hr k1).1
  exact ⟨b, k2, k3, lt_of_get k3, fun e => by cases e⟩
theorem lend_aggM {hp : Hp} {l : List AV} (hall : l.all plainM = true) : Lend hp (.agg l) (.agg (l.map unf)) := by
  intro w0 mu N tm w phi ro v hS h
  simp only [SimV] at h ⊢
  obtain ⟨a, h1, h2, h3⟩ := h
  exact ⟨a, h1, by rw [h2, List.length_map], simL_rmp (C := ctx w0 w ro phi ⟨fun _ => .any, hp⟩) (D := ctxAll w) rfl (fun b hb => hS.rob b hb) hall h3⟩
theorem lend_rpM {hp : Hp} {cs : List AV} (hall : cs.all plainM = true) : Lend hp (.rp cs) (.rp (cs.map unf)) := by
  intro w0 mu N tm w phi ro v hS hv
  simp only [SimV] at hv ⊢
  obtain ⟨b, o, cur, e, fz, h1, h2, h3, h4⟩ := hv
  exact ⟨b, o, cur, e, fz, h1, h2, lt_of_get h2, simL_rmp (C := (ctx w0 w ro phi ⟨fun _ => .any, hp⟩).out) (D := (ctxAll w).out) rfl (fun b hb => hS.rob b hb) hall h4⟩
theorem bears_rpM {cs : List AV} (h : cs.all plainM = true) (hu : cs.map unf = cs) : Bears [.rp cs] := by
  intro hp x hx
  rw [List.mem_singleton.1 hx]
  have := lend_rpM (hp := hp) h
  rw [hu] at this
  exact this
theorem bears_cons {x : AV} {l : List AV} (h : Bears [x]) (k : Bears l) : Bears (x :: l) := by
  intro hp y hy
  rcases List.mem_cons.1 hy with rfl | hy
  · exact h hp y (by simp)
  · exact k hp y hy
theorem lend_ptM {hp : Hp} {r off : Nat} {cs : List AV} (hr : hp r = some (true, cs)) (hall : cs.all plainM = true) : Lend hp (.pt r off) (.rp ((cs.map unf).drop off)) := by
  intro w0 mu N tm w phi ro v hS hv
  simp only [SimV] at hv ⊢
  obtain ⟨_, _, b, h1, h2, cur, e, h3⟩ := hv
  refine ⟨b, off, cur, e, (0, 0), h2, h3, lt_of_get h3, ?_⟩
  rcases hS.liv r _ hr with ⟨k1, _⟩ | ⟨b', cur', e', k1, k2, k3, k4, k5⟩ | ⟨b', o, k0, _⟩
  · have h1' : phi r = some b := h1
    rw [k1] at h1'; cases h1'
  · have h1' : phi r = some b := h1
    rw [k1] at h1'; cases h1'
    have h3' : w.heap[b]? = some (.cells cur e (0, 0)) := h3
    rw [k2] at h3'; cases h3'
    simp only [SimR, if_true] at k5
    exact (simL_rmp (C := (ctx w0 w ro phi ⟨fun _ => .any, hp⟩).out) (D := (ctxAll w).out) rfl (fun b hb => hS.rob b hb) hall k5).drop off
  · cases k0; simp [plainM] at hall
theorem outs_mp {r : Nat} {es : Array MapEntry} {clock : Nat} (hp : r < pbase) (hr : s.hp r = some (true, [.ob (.map es clock)])) : Outs s (.mp r) (.rmp true es clock) := by
  intro w0 N tm w phi ro y hS h
  simp only [SimV] at h ⊢
  obtain ⟨_, _, b, k1, k2⟩ := h
  obtain ⟨k3, k4'⟩ := ob_at' hS hr k1
  have k4 : r < pbase → w0.heap.size ≤ b := fun hp => (k4' hp).resolve_right fun h => by obtain ⟨_, _, h⟩ := h; cases h
  exact ⟨b, k2, k3, ⟨k4 hp, lt_of_get k3⟩, fun _ => k4 hp⟩
theorem outs_rmp {es : Array MapEntry} {clock : Nat} : Outs s (.rmp true es clock) (.rmp true es clock) := by
  intro w0 N tm w phi ro y hS h
  simp only [SimV] at h ⊢
  obtain ⟨b, k1, k2, k3, k4⟩ := h
  exact ⟨b, k1, k2, ⟨k4 trivial, lt_of_get k2⟩, k4⟩
theorem outs_agg2 {a b a' b' : AV} (h1 : Outs s a a') (h2 : Outs s b b') : Outs s (.agg [a, b]) (.agg [a', b']) := by
  intro w0 N tm w phi ro y hS h
  simp only [SimV] at h ⊢
  obtain ⟨ar, k1, k2, k3⟩ := h
  obtain ⟨l⟩ := ar
  match l, k2, k3 with
  | [p, q], _, k3 =>
    simp only [SimL] at k3
    exact ⟨_, k1, rfl, by simp only [SimL, and_true]; exact ⟨h1 _ _ _ _ _ _ _ hS k3.1, h2 _ _ _ _ _ _ _ hS k3.2.1⟩⟩

/-- A region's beginning is handed out. -/
theorem outs_sl_take {r z n : Nat} {cs : List AV} (hr : s.hp r = some (true, cs)) (hl : n * z ≤ cs.length) (hall : cs.all plainV = true) :
    Outs s (.sl r z 0 n) (.ro true z (cs.take (n * z)) n) := by
  intro w0 N tm w phi ro y hS hy
  simp only [SimV] at hy ⊢
  rcases hy.2.2 with ⟨h1, _, rfl, rfl⟩ | ⟨b, o, cap, cur, e, h1, rfl, h3, h4, h5, h6, h7⟩
  · left
    exact ⟨rfl, by simp, none, 0, rfl, fun _ => ⟨rfl, rfl⟩⟩
  · right
    have ho : o = 0 := by
      rcases h4 with h4 | h4
      · exact h4
      · exact absurd h4.2 (Nat.lt_irrefl _)
    subst ho
    rcases hS.liv r _ hr with ⟨h8, _⟩ | ⟨b', cur', e', h8, h9, h10, h11, h12⟩ | ⟨b', o', _, h8, h9, h10, _⟩
    · have : phi r = some b := h1
      rw [h8] at this; cases this
    case inr.inr => exact ob_not_cells h8 h9 h10 h1 h3
    · have h1' : phi r = some b := h1
      rw [h8] at h1'
      cases h1'
      have h3' : w.heap[b]? = some (.cells cur e (0, 0)) := h3
      rw [h9] at h3'
      cases h3'
      have hb : w0.heap.size ≤ b := (h11.resolve_right fun h => by cases h.2).2.resolve_right fun h => by obtain ⟨_, _, h⟩ := h; cases h
      refine ⟨b, 0, cap, cur, e, (0, 0), rfl, h9, ⟨hb, lt_of_get h9⟩, by rw [List.length_take]; omega, h5, fun _ => ⟨hb, rfl, rfl, h6, by omega⟩, ?_⟩
      simp only [SimR, if_true] at h12
      rw [List.drop_zero]
      exact (simL_allv hall h12).take _

/-- An operation, something being forgotten first. -/
theorem step_opsW {o : AOper} {l : List AOper} {s' : AS} {Q : AS → Prop} (hw : Weak s s') (h : aop1 P own o s' fun s' => aops P own l s' Q) : aops P own (o :: l) s Q := ⟨s', hw, h⟩

/- Results of which some lie in cells. -/
inductive RV where
  | t (n : Nat)
  | c (a k : Nat)
def resG1 (P : Program) : ResultVar → Option RV
  | .tmp t => some (.t t)
  | .cell a t => (shapeT P t).bind fun k => k.map fun k => .c a k
def resG (P : Program) (fn : Func) : Option (List RV) := fn.results.toList.mapM (resG1 P)
def rvOk (s : AS) : RV → AV → Prop
  | .t n, x => s.tm n = x
  | .c a k, x => ∃ r off fl cs, s.tm a = .pt r off ∧ s.hp r = some (fl, cs) ∧ off + k ≤ cs.length ∧ x = .agg ((cs.drop off).take k)
def rvsOk (s : AS) : List RV → List AV → Prop
  | [], [] => True
  | r :: rs, x :: xs => rvOk s r x ∧ rvsOk s rs xs
  | _, _ => False
def tupAV : List AV → AV
  | [x] => x
  | xs => .tup xs
def DoneG (rs : List RV) (res : AV) : Exit → AS → Prop
  | .normal, s | .ret, s => ∃ xs, rvsOk s rs xs ∧ Outs s (tupAV xs) res
  | _, _ => False

theorem rv_run {w w' : World} {mu : Nat → Option Nat} {a' : Act} {phi : Nat → Option Nat} {ro : Nat → Prop} (hS : Sim w mu N s a'.tmps w' phi ro) {r : ResultVar} {rv : RV} {x : AV} (h1 : resG1 P r = some rv) (h2 : rvOk s rv x) :
    ∃ y, (resOne a'.tmps r).run P w' = .ok y w' ∧ SimV x (ctx w w' ro phi s) y := by
  cases r with
  | tmp t =>
    simp only [resG1, Option.some.injEq] at h1
    subst h1
    simp only [rvOk] at h2
    refine ⟨_, rfl, ?_⟩
    rw [← h2]
    exact hS.tms t
  | cell a t =>
    simp only [resG1] at h1
    rw [Option.bind_eq_some_iff] at h1
    obtain ⟨k0, hk0, h1⟩ := h1
    rw [Option.map_eq_some_iff] at h1
    obtain ⟨k, rfl, rfl⟩ := h1
    obtain ⟨r, off, fl, cs, hta, hra, hle, rfl⟩ := h2
    obtain ⟨dd, i, ht, hi, hik, hdd⟩ := shapeT_some hk0
    have hv := hS.tms a
    rw [hta] at hv
    simp only [SimV] at hv
    obtain ⟨_, _, b, hb', hy, cur1, e1, hcell1⟩ := hv
    obtain ⟨cur, e0, hcell, hsim, _⟩ := hS.cell hra hb' hcell1
    have hl := hsim.list
    have hlen := hl.length_le
    simp only [Array.length_toList] at hlen
    have hcell' : w'.heap[b]? = some (.cells cur e0 (0, 0)) := hcell
    have hld : (loadVar t ⟨b, off, none⟩).run P w' = .ok (.agg ((cur.toList.drop off).take k).toArray) w' := by
      have hrun := run_load_agg (P := P) (w := w') (b := b) (off := off) ht hi hdd hcell' (by omega)
      rw [hik] at hrun
      simpa [Instr.loadAt, Instr.sureAddr] using hrun
    refine ⟨.agg ((cur.toList.drop off).take k).toArray, by simp [resOne, hy, asAddr, hld], ?_⟩
    simp only [SimV]
    refine ⟨_, rfl, by simp; omega, ?_⟩
    exact ((hl.drop off).take k).shorter k (by simp; omega)
theorem rvs_run {w w' : World} {mu : Nat → Option Nat} {a' : Act} {phi : Nat → Option Nat} {ro : Nat → Prop} (hS : Sim w mu N s a'.tmps w' phi ro) : ∀ {rs : List ResultVar} {rvs : List RV} {xs : List AV}, rs.mapM (resG1 P) = some rvs → rvsOk s rvs xs →
    ∃ ys, (rs.mapM (m := Sem) (resOne a'.tmps)).run P w' = .ok ys w' ∧ SimL xs (ctx w w' ro phi s) ys ∧ ys.length = xs.length
  | [], rvs, xs, h1, h2 => by
    simp at h1
    subst h1
    cases xs with
    | nil => exact ⟨[], by simp, by simp [SimL], rfl⟩
    | cons => exact h2.elim
  | r :: rs, rvs, xs, h1, h2 => by
    rw [List.mapM_cons] at h1
    simp only [Option.bind_eq_bind, Option.bind_eq_some_iff, Option.pure_def, Option.some.injEq] at h1
    obtain ⟨rv, g1, rvs', g2, rfl⟩ := h1
    cases xs with
    | nil => exact h2.elim
    | cons x xs =>
      obtain ⟨y, k1, k2⟩ := rv_run hS g1 h2.1
      obtain ⟨ys, k3, k4, k5⟩ := rvs_run hS g2 h2.2
      refine ⟨y :: ys, ?_, ?_, by simp [k5]⟩
      · rw [List.mapM_cons]
        simp only [Sem.run_bind, k1, Result.andThen_ok, k3, Sem.run_pure]
      · simp only [SimL]; exact ⟨k2, k4⟩

theorem specG_of {f : FuncId} {fn : Func} {code : Code} {ac : ACode} {rvs : List RV} {as : List AV} {res : AV} (hf : P.funcs[f]? = some fn) (hb : fn.body = some code) (hc : ccode P (min fn.ntmps pbase) code = some ac) (hr : resG P fn = some rvs)
    (h : AW P (min fn.ntmps pbase) ac (enter0 as) (DoneG rvs res)) : Sp P f as res := by
  intro w vs hg hent
  refine calls_of_wp hf hb (wp_mono (h code hc w (fun _ => none) _ w ⟨rfl, _, _, enter0_sim hg hent⟩) fun e a' w' hA => ?_)
  obtain ⟨s', h1, hf', phi, ro, hS⟩ := hA
  have fin : (∃ xs, rvsOk s' rvs xs ∧ Outs s' (tupAV xs) res) → a'.defers = [] ∧ ∃ v, (results fn a'.tmps).run P w' = .ok v w' ∧ ∃ v', Ending.returned v = .returned v' ∧ More w w' ∧ SimV res (fresh w w') v' := by
    rintro ⟨xs, hx, ho⟩
    obtain ⟨ys, k1, k2, k3⟩ := rvs_run hS hr hx
    have hr0 : results fn a'.tmps = (do let vs ← fn.results.mapM (resOne a'.tmps); pure (if h : vs.size = 1 then vs[0] else .tuple vs)) := rfl
    have hm : (fn.results.mapM (m := Sem) (resOne a'.tmps)).run P w' = .ok ys.toArray w' := by
      rw [Array.mapM_eq_mapM_toList, Sem.run_map, k1]
      rfl
    refine ⟨hf', if h : ys.toArray.size = 1 then ys.toArray[0] else .tuple ys.toArray, ?_, _, rfl, ⟨hS.os, hS.tape, hS.output, hS.size, fun b hb => hS.kept b hb (fun r => by simp)⟩, ho w (min fn.ntmps pbase) a'.tmps w' phi ro _ hS ?_⟩
    · rw [hr0, Sem.run_bind, hm]
      simp
    · match xs, ys, k2, k3 with
      | [x], [y], k2, _ =>
        simp only [SimL] at k2
        simpa [tupAV] using k2.1
      | [], [], _, _ => simp [tupAV, SimV, SimL]
      | x :: x' :: xs, y :: y' :: ys, k2, k3 =>
        simp only [tupAV, SimV]
        refine ⟨(y :: y' :: ys).toArray, by simp, by simpa using k3, k2⟩
  cases e with
  | normal => exact fin h1
  | ret => exact fin h1
  | exit id => exact h1.elim
  | goto l => exact h1.elim
  | panic c => exact h1.elim
  | outgrown => exact h1.elim
/-- The end of a function with a struct in a variable, and one value more. -/
theorem ret_doneg2 {a k t r : Nat} {fl : Bool} {cs : List AV} {res : AV} (h1 : s.tm a = .pt r 0) (h2 : s.hp r = some (fl, cs)) (h3 : cs.length = k) (h4 : Outs s (.tup [.agg cs, s.tm t]) res) : DoneG [.c a k, .t t] res .ret s :=
  ⟨[.agg cs, s.tm t], ⟨⟨r, 0, fl, cs, h1, h2, by omega, by rw [List.drop_zero, List.take_of_length_le (by omega)]⟩, rfl, trivial⟩, h4⟩
end Go.Am
