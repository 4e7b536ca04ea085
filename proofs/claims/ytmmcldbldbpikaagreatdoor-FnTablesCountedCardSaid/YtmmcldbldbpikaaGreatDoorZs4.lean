/- The abstract machine, contracts: part 4 of what this claim needs. -/
import Derived.Test.YtmmcldbldbpikaaGreatDoorZs3
set_option linter.unusedSectionVars false
namespace Go.Am
variable [Go.Am.CodeBlk]
/-- A function value bears its first arguments; what it bears, a callee may read asx it is. -/
def Bears (fl : List AV) : Prop := ∀ hp, ∀ x ∈ fl, Lend hp x x
theorem lends_bears {fl : List AV} (h : Bears fl) (hp : Hp) {xs ys : List AV} (k : Lends hp xs ys) : Lends hp (fl ++ xs) (fl ++ ys) := by
  induction fl with
  | nil => exact k
  | cons a l ih => exact lends_cons (h hp a (by simp)) (ih fun hp x hx => h hp x (by simp [hx]))
theorem lend_fn {hp : Hp} {f : FuncId} {l m : List AV} {k : Nat} (h : Lends hp l m) : Lend hp (.fn f l k) (.fn f m k) := by
  intro w0 mu N tm w phi ro v hS hv
  simp only [SimV] at hv ⊢
  obtain ⟨a, b, h1, h2, h3, h4⟩ := hv
  obtain ⟨h5, h6⟩ := h w0 mu N tm w phi ro (a.toList ++ b.toList) hS h4 (by simpa using h3)
  exact ⟨a, b, h1, h2, by simpa using h6, h5⟩
theorem lend_bears {hp : Hp} {f : FuncId} {fl : List AV} {k : Nat} (h : Bears fl) : Lend hp (.fn f fl k) (.fn f fl k) := by
  have := lends_bears h hp lends_nil
  simp only [List.append_nil] at this
  exact lend_fn this
section
variable {s : AS}
theorem tm_put_ne' {d t : Nat} {x : AV} (h : t ≠ d) : (s.put (some d) x).tm t = s.tm t := by simp [AS.put, h]
theorem tm_put_none {t : Nat} {x : AV} : (s.put none x).tm t = s.tm t := rfl
theorem tm_mem {r t : Nat} {c : Bool × List AV} : (s.mem r c).tm t = s.tm t := rfl
theorem tm_kill {r t : Nat} : (s.kill r).tm t = killV r (s.tm t) := rfl
theorem tm_mv {r q t : Nat} {c : List AV} : (s.mv r q c).tm t = mvV r q (s.tm t) := rfl
theorem tm_st {l : List (Nat × AV)} {h : List (Nat × (Bool × List AV))} {t : Nat} : (st l h).tm t = (look l t).getD .any := rfl
theorem tm_en0 {a : AV} {l : List AV} : (enter0 (a :: l)).tm 0 = a := rfl
theorem tm_en1 {a b : AV} {l : List AV} : (enter0 (a :: b :: l)).tm 1 = b := rfl
theorem tm_en2 {a b c : AV} {l : List AV} : (enter0 (a :: b :: c :: l)).tm 2 = c := rfl
theorem tm_en3 {a b c d : AV} {l : List AV} : (enter0 (a :: b :: c :: d :: l)).tm 3 = d := rfl
theorem tm_en4 {a b c d e : AV} {l : List AV} : (enter0 (a :: b :: c :: d :: e :: l)).tm 4 = e := rfl
end
section
variable {f : FuncId} {fl : List AV} {k r q : Nat}
theorem kill_fn (h : ∀ r, killL r fl = fl) : killV r (.fn f fl k) = .fn f fl k := by simp only [killV, h]
theorem mv_fn (h : ∀ r, killL r fl = fl) : mvV r q (.fn f fl k) = .fn f fl k := by simp only [mvV, killV, h]
end
theorem lends_self {fl : List AV} (h : Bears fl) (hp : Hp) : Lends hp fl fl := by
  have := lends_bears h hp lends_nil
  simpa only [List.append_nil] using this
/-- A pointer to memory that nobody writes. -/
theorem lend_rp {hp : Hp} {cs : List AV} (hall : cs.all plainV = true) : Lend hp (.rp cs) (.rp cs) := by
  intro w0 mu N tm w phi ro v hS hv
  simp only [SimV] at hv ⊢
  obtain ⟨b, o, cur, e, fz, h1, h2, h3, h4⟩ := hv
  exact ⟨b, o, cur, e, fz, h1, h2, lt_of_get h2, simL_allv hall h4⟩
theorem bears_rp {cs : List AV} (h : cs.all plainV = true) : Bears [.rp cs] := by
  intro hp x hx
  rw [List.mem_singleton.1 hx]
  exact lend_rp h
/-- A pointer to a region of my own: the callee reads it. -/
theorem lend_pt {hp : Hp} {r off : Nat} {cs : List AV} (hr : hp r = some (true, cs)) (hall : cs.all plainV = true) : Lend hp (.pt r off) (.rp (cs.drop off)) := by
  intro w0 mu N tm w phi ro v hS hv
  simp only [SimV] at hv ⊢
  obtain ⟨_, _, b, h1, h2, cur, e, h3⟩ := hv
  refine ⟨b, off, cur, e, (0, 0), h2, h3, lt_of_get h3, ?_⟩
  rcases hS.liv r _ hr with ⟨k1, _⟩ | ⟨b', cur', e', k1, k2, k3, k4, k5⟩ | ⟨b', o, k0, _⟩
  · have h1' : phi r = some b := h1
    rw [k1] at h1'; cases h1'
  · have h1' : phi r = some b := h1
    rw [k1] at h1'; cases h1'
    have h3' : w.heap[b]? = some (.cells cur e (0, 0)) := h3
    rw [k2] at h3'; cases h3'
    simp only [SimR, if_true] at k5
    exact (simL_allv hall k5).drop off
  · cases k0; simp [plainV] at hall
/-- May a function value be asked of a place? It answers asx fb says. -/
structure AsksP (P : Program) (f : FuncId) (fl : List AV) (n : Nat) (fb : Nat → Nat → Bool) : Prop where
  call : Callable P f
  bears : Bears fl
  norefs : ∀ keep, refsL keep fl = true
  nokill : ∀ r, killL r fl = fl
  spec : ∀ i j, i < n → j < n → Sp P f (.agg [.i (i : Nat), .i (j : Nat)] :: fl) (.b (fb i j))
/- Boards asx texts. -/
def sgn (b : Bool) : UInt8 := if b then 35 else 46
def rowT (fb : Nat → Nat → Bool) (i k : Nat) : List UInt8 := (List.range k).map fun j => sgn (fb i j)
def bdT (fb : Nat → Nat → Bool) (n : Nat) : Nat → List UInt8
  | 0 => []
  | k + 1 => bdT fb n k ++ (if 0 < k then [47] else []) ++ rowT fb k n
theorem rowT_len (fb : Nat → Nat → Bool) (i k : Nat) : (rowT fb i k).length = k := by simp [rowT]
theorem rowT_snoc (fb : Nat → Nat → Bool) (i k : Nat) : rowT fb i (k + 1) = rowT fb i k ++ [sgn (fb i k)] := by simp [rowT, List.range_succ]
theorem bdT_len (fb : Nat → Nat → Bool) (n k : Nat) : (bdT fb n k).length ≤ k * (n + 1) := by
  induction k with
  | zero => simp [bdT]
  | succ k ih =>
    simp only [bdT, List.length_append, rowT_len]
    have : (if 0 < k then [(47 : UInt8)] else []).length ≤ 1 := by split <;> simp
    rw [Nat.add_mul, Nat.one_mul]
    omega
theorem rowT_congr {f g : Nat → Nat → Bool} {i k n : Nat} (h : ∀ i j, i < n → j < n → f i j = g i j) (hi : i < n) (hk : k ≤ n) : rowT f i k = rowT g i k :=
  List.map_congr_left fun j hj => by rw [h i j hi (by have := List.mem_range.1 hj; omega)]
theorem bdT_congr {f g : Nat → Nat → Bool} {n k : Nat} (h : ∀ i j, i < n → j < n → f i j = g i j) (hk : k ≤ n) : bdT f n k = bdT g n k := by
  induction k with
  | zero => rfl
  | succ k ih => simp only [bdT]; rw [ih (by omega), rowT_congr h (by omega) (Nat.le_refl _)]
theorem getD_memL {α : Type} {l : List α} {d : α} {m : Nat} (h : m < l.length) : l.getD m d ∈ l := by
  have : l.getD m d = l[m] := by simp [h]
  rw [this]
  exact List.getElem_mem h
/-- Is a place in a list? -/
def inB (ps : List (List Int)) (i j : Nat) : Bool := ps.any fun p => decide (p.getD 0 0 = (i : Int)) && decide (p.getD 1 0 = (j : Int))
theorem byteVs_snoc (bs : List UInt8) (b : UInt8) : byteVs (bs ++ [b]) = byteVs bs ++ [.v (.int .u8 b.toNat)] := by simp [byteVs]
end Go.Am
namespace Go.Am
variable [Go.Am.CodeBlk]
variable {P : Program} {own : Bool} {d : Option Nat} {s : AS} {K : AS → Prop} {N : Nat}
section
variable {x y z : Opd} {A B : List UInt8}
theorem str_beq (A B : List UInt8) : ((⟨A.toArray⟩ : ByteArray).toList == (⟨B.toArray⟩ : ByteArray).toList) = decide (A = B) := by
  rw [ByteArray.toList_eq, ByteArray.toList_eq, Bool.eq_iff_iff]
  simp
theorem m_eqs (hx : s.ev x = str A) (hy : s.ev y = str B) (k : K (s.put d (.b (decide (A = B))))) : aop1 P own ⟨d, .bin .eql x y, none⟩ s K := by
  refine ⟨_, _, _, hx, hy, rfl, ?_⟩
  rw [str_beq]
  exact k
theorem m_eqk {q : IntKind} {a b : Int} (hx : s.ev x = .v (.int q a)) (hy : s.ev y = .v (.int q b)) (k : K (s.put d (.b (decide (a = b))))) : aop1 P own ⟨d, .bin .eql x y, none⟩ s K := by
  refine ⟨_, _, .bool (a == b), hx, hy, by simp [pbin], ?_⟩
  rw [show (a == b) = decide (a = b) from by rw [Bool.eq_iff_iff]; simp]
  exact k
theorem bytes_extract (A : List UInt8) (l h : Nat) : (⟨A.toArray⟩ : ByteArray).extract l h = ⟨((A.drop l).take (h - l)).toArray⟩ := by
  apply ByteArray.ext
  rw [ByteArray.data_extract]
  apply Array.ext'
  rw [Array.toList_extract]
theorem m_scutl {l : Nat} (hx : s.ev x = str A) (hl : s.ev y = .i (l : Nat)) (h1 : l ≤ A.length) (k : K (s.put d (str (A.drop l)))) : aop1 P own ⟨d, .pu (.scut true false) [x, y], none⟩ s K := by
  refine m_scut_lo hx hl (by show l ≤ A.toArray.size; simpa using h1) ?_
  rw [bytes_extract]
  have : (⟨A.toArray⟩ : ByteArray).size = A.length := by show A.toArray.size = _; simp
  rw [this, List.take_of_length_le (by simp)]
  exact k
theorem m_scuth {h : Nat} (hx : s.ev x = str A) (hh : s.ev y = .i (h : Nat)) (h1 : h ≤ A.length) (k : K (s.put d (str (A.take h)))) : aop1 P own ⟨d, .pu (.scut false true) [x, y], none⟩ s K := by
  refine m_scut_hi hx hh (by show h ≤ A.toArray.size; simpa using h1) ?_
  rw [bytes_extract, List.drop_zero, Nat.sub_zero]
  exact k
theorem m_xcall {f : FuncId} {fn : Func} {e : Array Value → Sem Value} {args : List Opd} {vs : List Value} {v : Value} (h1 : P.funcs[f]? = some fn) (h2 : (fn.name == "runtime.NumGoroutine") = false) (h3 : fn.body.isNone = true) (h4 : Extern.findNext fn = none) (h5 : Extern.find fn = some e)
    (h6 : args.map s.ev = vs.map AV.v) (h7 : ∀ w, (e vs.toArray).run P w = .ok v w) (k : K (s.put d (.v v))) : aop1 P own ⟨d, .xcall f args, none⟩ s K := ⟨fn, e, vs, v, h1, h2, h3, h4, h5, h6, h7, k⟩
end
section
variable {x y i : Opd}
theorem m_mgetk {kt : TypeId} {zv : Value} {es : Array MapEntry} {clock : Nat} {kv : Value} {r : AV} {ok : Bool} (KL : WideMaps.KeyLaw P kt) (hm : MapAt s (s.ev x) es clock) (hi : exV (s.ev i) = some kv) (hk : ∃ l, keyOf P kt kv = some l) (hkeys : ∀ e ∈ es.toList, ∃ l, keyOf P kt e.key = some l)
    (h1 : ∀ e ∈ es.toList, e.key = kv → mres ok e.val true = r) (h2 : (∀ e ∈ es.toList, e.key ≠ kv) → mres ok zv false = r) (k : K (s.put d r)) : aop1 P own ⟨d, .mgetk kt zv ok x i, none⟩ s K :=
  ⟨KL, es, clock, kv, hm, hi, hk, hkeys, r, h1, h2, k⟩
theorem m_mrg {r q : Nat} {es : Array MapEntry} {clock : Nat} (hx : s.ev x = .mp q) (hne : q ≠ r) (hq : s.hp q = some (true, [.ob (.map es clock)]))
    (k : ∀ bm : Nat, K (((s.kill r).mem r (true, [.ob (.mapIter (some bm) clock #[] clock)])).put (some r) (.mit r (some q) bm #[] 0))) : aop1 P own ⟨some r, .mrg x, none⟩ s K :=
  ⟨r, rfl, .inl ⟨q, es, clock, hx, hne, hq, k⟩⟩
theorem m_mnx {r q bm ck0 since : Nat} {es0 : Array MapEntry} {seen : Array Nat} {c0 : Nat} {es : Array MapEntry} {clock : Nat} (hx : s.ev x = .mit r (some q) bm es0 ck0) (hr : s.hp r = some (true, [.ob (.mapIter (some bm) since seen c0)]))
    (hne : q ≠ r) (hq : s.hp q = some (true, [.ob (.map es clock)])) (hold : ∀ e ∈ es.toList, e.born < since) (hsc : since ≤ c0) (k1 : (∀ e ∈ es.toList, seen.contains e.born = true) → K (s.put d (.tup [.v (.bool false)])))
    (k2 : ∀ e ∈ es.toList, seen.contains e.born = false → K ((s.mem r (true, [.ob (.mapIter (some bm) since (seen.push e.born) clock)])).put d (.tup [.v (.bool true), .any, .any]))) : aop1 P own ⟨d, .mnx x, none⟩ s K :=
  ⟨r, some q, bm, es0, ck0, since, seen, c0, es, clock, hx, hr, .inl ⟨q, rfl, hne, hq⟩, hold, hsc, k1, k2⟩
theorem m_ment {r q bm ck0 since : Nat} {es0 : Array MapEntry} {seen : Array Nat} {es : Array MapEntry} {clock : Nat} {e : MapEntry} {ka va : AV} (hx : s.ev x = .mit r (some q) bm es0 ck0)
    (hr : s.hp r = some (true, [.ob (.mapIter (some bm) since (seen.push e.born) clock)])) (hne : q ≠ r) (hq : s.hp q = some (true, [.ob (.map es clock)])) (he : e ∈ es.toList) (hn : (es.toList.map (·.born)).Nodup)
    (hka : exV ka = some e.key) (hva : exV va = some e.val) (k : K (s.put d (.tup [ka, va]))) : aop1 P own ⟨d, .ment x, none⟩ s K :=
  ⟨r, some q, bm, es0, ck0, since, seen, es, clock, e, ka, va, hx, hr, .inl ⟨q, rfl, hne, hq⟩, he, hn, hka, hva, k⟩
theorem m_mdel {kt : TypeId} {r : Nat} {es : Array MapEntry} {clock : Nat} {kv : Value} (KL : WideMaps.KeyLaw P kt) (hx : s.ev x = .mp r) (hr : s.hp r = some (true, [.ob (.map es clock)])) (hi : exV (s.ev i) = some kv) (hk : ∃ l, keyOf P kt kv = some l)
    (hks : ∀ e ∈ es.toList, ∃ l, keyOf P kt e.key = some l) (k1 : ∀ (n : Nat) (e : MapEntry), es.toList[n]? = some e → e.key = kv → K ((s.mem r (true, [.ob (.map (es.eraseIdxIfInBounds n) clock)])).put d (.tup [])))
    (k2 : (∀ e ∈ es.toList, e.key ≠ kv) → K ((s.mem r (true, [.ob (.map es clock)])).put d (.tup []))) : aop1 P own ⟨d, .mdel kt x i, none⟩ s K :=
  ⟨KL, r, es, clock, kv, hx, hr, hi, hk, hks, k1, k2⟩
theorem m_mputk {kt : TypeId} {r : Nat} {es : Array MapEntry} {clock : Nat} {kv v : Value} (KL : WideMaps.KeyLaw P kt) (hx : s.ev x = .mp r) (hr : s.hp r = some (true, [.ob (.map es clock)])) (hi : exV (s.ev i) = some kv) (hy : s.ev y = .v v) (hk : ∃ l, keyOf P kt kv = some l) (hkeys : ∀ e ∈ es.toList, ∃ l, keyOf P kt e.key = some l)
    (hnew : ∀ e ∈ es.toList, e.key ≠ kv) (k : K (s.mem r (true, [.ob (.map (es.push { key := kv, val := v, born := clock }) (clock + 1))]))) : aop1 P own ⟨none, .mputk kt x i y, none⟩ s K :=
  ⟨KL, r, es, clock, kv, v, hx, hr, hi, hy, hk, hkeys, fun n e he hk => absurd hk (hnew e (List.mem_of_getElem? he)), fun _ => k⟩
end
/-- Plain values, and maps that nobody writes. -/
def plainM : AV → Bool
  | .v _ => true
  | .rmp _ _ _ => true
  | _ => false
/-- Such a value, asx somebody else sees it. -/
def unf : AV → AV
  | .rmp _ es clock => .rmp false es clock
  | x => x
theorem simL_rmp {C D : Ctx} (hh : C.heap = D.heap) (hr : ∀ b, C.ro b → D.ro b) : ∀ {l : List AV} {ys : List Value}, l.all plainM = true → SimL l C ys → SimL (l.map unf) D ys
  | [], _, _, _ => by simp [SimL]
  | _ :: _, [], _, h => by simp [SimL] at h
  | x :: l, y :: ys, h, hs => by
    simp only [List.all_cons, Bool.and_eq_true, SimL, List.map_cons] at h hs ⊢
    refine ⟨?_, simL_rmp hh hr h.2 hs.2⟩
    cases x <;> simp [plainM] at h
    · simpa [SimV, unf] using hs.1
    · have h1 := hs.1
      simp only [SimV, unf] at h1 ⊢
      obtain ⟨b, k1, k2, k3, _⟩ := h1
      exact ⟨b, k1, by rw [← hh]; exact k2, hr b k3, fun e => by cases e⟩
theorem lend_rmp {hp : Hp} {fr : Bool} {es : Array MapEntry} {clock : Nat} : Lend hp (.rmp fr es clock) (.rmp false es clock) := by
  intro w0 mu N tm w phi ro v hS hv
  simp only [SimV] at hv ⊢
  obtain ⟨b, k1, k2, k3, _⟩ := hv
  exact ⟨b, k1, k2, lt_of_get k2, fun e => by cases e⟩
theorem ob_at' {w0 w : World} {mu : Nat → Option Nat} {tm : Array Value} {phi : Nat → Option Nat} {ro : Nat → Prop} (hS : Sim w0 mu N s tm w phi ro) {r k : Nat} {es : Array MapEntry} {clock : Nat} (hr : s.hp r = some (true, [.ob (.map es clock)])) (hk : phi r = some k) :
    w.heap[k]? = some (.map es clock) ∧ (r < pbase → Mine w0 mu k) := by
  rcases hS.liv r _ hr with ⟨h1, _⟩ | ⟨b', cur, e, h1, h2, _, _, h5⟩ | ⟨b', o, h0, h1, h2, h3, h4, h5⟩
  · rw [h1] at hk; cases hk
  · exfalso
    simp only [SimR, if_true] at h5
    cases hc : cur.toList with
    | nil => rw [hc] at h5; simp [SimL] at h5
    | cons y ys => rw [hc] at h5; simp [SimL, SimV] at h5
  · rw [h1] at hk
    cases hk
    simp only [Prod.mk.injEq, List.cons.injEq, AV.ob.injEq, and_true, true_and] at h0
    subst h0
    exact ⟨h2, fun hp => (h5.resolve_right fun h => by omega).2⟩
/-- What a callee sees of plain memory. -/
abbrev ctxAll (w : World) : Ctx := { heap := w.heap, ro := fun b => b < w.heap.size, base := w.heap.size, phi := fun _ => none, live := fun _ => false, loc := false }
theorem lend_map {hp : Hp} {r : Nat} {es : Array MapEntry} {clock : Nat} (hr : hp r = some (true, [.ob (.map es clock)])) : Lend hp (.mp r) (.rmp false es clock) := by
  intro w0 mu N tm w phi ro v hS hv
  simp only [SimV] at hv ⊢
  obtain ⟨_, _, b, k1, k2⟩ := hv
  have k3 := (ob_at' hS hr k1).1
  exact ⟨b, k2, k3, lt_of_get k3, fun e => by cases e⟩
theorem lend_aggM {hp : Hp} {l : List AV} (hall : l.all plainM = true) : Lend hp (.agg l) (.agg (l.map unf)) := by
  intro w0 mu N tm w phi ro v hS h
  simp only [SimV] at h ⊢
  obtain ⟨a, h1, h2, h3⟩ := h
  exact ⟨a, h1, by rw [h2, List.length_map], simL_rmp (C := ctx w0 w ro phi ⟨fun _ => .any, hp⟩) (D := ctxAll w) rfl (fun b hb => hS.rob b hb) hall h3⟩
theorem outs_mp {r : Nat} {es : Array MapEntry} {clock : Nat} (hp : r < pbase) (hr : s.hp r = some (true, [.ob (.map es clock)])) : Outs s (.mp r) (.rmp true es clock) := by
  intro w0 N tm w phi ro y hS h
  simp only [SimV] at h ⊢
  obtain ⟨_, _, b, k1, k2⟩ := h
  obtain ⟨k3, k4'⟩ := ob_at' hS hr k1
  have k4 : r < pbase → w0.heap.size ≤ b := fun hp => (k4' hp).resolve_right fun h => by obtain ⟨_, _, h⟩ := h; cases h
  exact ⟨b, k2, k3, ⟨k4 hp, lt_of_get k3⟩, fun _ => k4 hp⟩
theorem outs_agg2 {a b a' b' : AV} (h1 : Outs s a a') (h2 : Outs s b b') : Outs s (.agg [a, b]) (.agg [a', b']) := by
  intro w0 N tm w phi ro y hS h
  simp only [SimV] at h ⊢
  obtain ⟨ar, k1, k2, k3⟩ := h
  obtain ⟨l⟩ := ar
  match l, k2, k3 with
  | [p, q], _, k3 =>
    simp only [SimL] at k3
    exact ⟨_, k1, rfl, by simp only [SimL, and_true]; exact ⟨h1 _ _ _ _ _ _ _ hS k3.1, h2 _ _ _ _ _ _ _ hS k3.2.1⟩⟩
/-- A region's beginning is handed out. -/
theorem outs_sl_take {r z n : Nat} {cs : List AV} (hr : s.hp r = some (true, cs)) (hl : n * z ≤ cs.length) (hall : cs.all plainV = true) :
    Outs s (.sl r z 0 n) (.ro true z (cs.take (n * z)) n) := by
  intro w0 N tm w phi ro y hS hy
  simp only [SimV] at hy ⊢
  rcases hy.2.2 with ⟨h1, _, rfl, rfl⟩ | ⟨b, o, cap, cur, e, h1, rfl, h3, h4, h5, h6, h7⟩
  · left
    exact ⟨rfl, by simp, none, 0, rfl, fun _ => ⟨rfl, rfl⟩⟩
  · right
    have ho : o = 0 := by
      rcases h4 with h4 | h4
      · exact h4
      · exact absurd h4.2 (Nat.lt_irrefl _)
    subst ho
    rcases hS.liv r _ hr with ⟨h8, _⟩ | ⟨b', cur', e', h8, h9, h10, h11, h12⟩ | ⟨b', o', _, h8, h9, h10, _⟩
    · have : phi r = some b := h1
      rw [h8] at this; cases this
    case inr.inr => exact ob_not_cells h8 h9 h10 h1 h3
    · have h1' : phi r = some b := h1
      rw [h8] at h1'
      cases h1'
      have h3' : w.heap[b]? = some (.cells cur e (0, 0)) := h3
      rw [h9] at h3'
      cases h3'
      have hb : w0.heap.size ≤ b := (h11.resolve_right fun h => by cases h.2).2.resolve_right fun h => by obtain ⟨_, _, h⟩ := h; cases h
      refine ⟨b, 0, cap, cur, e, (0, 0), rfl, h9, ⟨hb, lt_of_get h9⟩, by rw [List.length_take]; omega, h5, fun _ => ⟨hb, rfl, rfl, h6, by omega⟩, ?_⟩
      simp only [SimR, if_true] at h12
      rw [List.drop_zero]
      exact (simL_allv hall h12).take _
/-- An operation, something being forgotten first. -/
theorem step_opsW {o : AOper} {l : List AOper} {s' : AS} {Q : AS → Prop} (hw : Weak s s') (h : aop1 P own o s' fun s' => aops P own l s' Q) : aops P own (o :: l) s Q := ⟨s', hw, h⟩

/- Results of which some lie in cells. -/
inductive RV where
  | t (n : Nat)
  | c (a k : Nat)
def resG1 (P : Program) : ResultVar → Option RV
  | .tmp t => some (.t t)
  | .cell a t => (shapeT P t).bind fun k => k.map fun k => .c a k
def resG (P : Program) (fn : Func) : Option (List RV) := fn.results.toList.mapM (resG1 P)
def rvOk (s : AS) : RV → AV → Prop
  | .t n, x => s.tm n = x
  | .c a k, x => ∃ r off fl cs, s.tm a = .pt r off ∧ s.hp r = some (fl, cs) ∧ off + k ≤ cs.length ∧ x = .agg ((cs.drop off).take k)
def rvsOk (s : AS) : List RV → List AV → Prop
  | [], [] => True
  | r :: rs, x :: xs => rvOk s r x ∧ rvsOk s rs xs
  | _, _ => False
def tupAV : List AV → AV
  | [x] => x
  | xs => .tup xs
def DoneG (rs : List RV) (res : AV) : Exit → AS → Prop
  | .normal, s | .ret, s => ∃ xs, rvsOk s rs xs ∧ Outs s (tupAV xs) res
  | _, _ => False
theorem rv_run {w w' : World} {mu : Nat → Option Nat} {a' : Act} {phi : Nat → Option Nat} {ro : Nat → Prop} (hS : Sim w mu N s a'.tmps w' phi ro) {r : ResultVar} {rv : RV} {x : AV} (h1 : resG1 P r = some rv) (h2 : rvOk s rv x) :
    ∃ y, (resOne a'.tmps r).run P w' = .ok y w' ∧ SimV x (ctx w w' ro phi s) y := by
  cases r with
  | tmp t =>
    simp only [resG1, Option.some.injEq] at h1
    subst h1
    simp only [rvOk] at h2
    refine ⟨_, rfl, ?_⟩
    rw [← h2]
    exact hS.tms t
  | cell a t =>
    simp only [resG1] at h1
    rw [Option.bind_eq_some_iff] at h1
    obtain ⟨k0, hk0, h1⟩ := h1
    rw [Option.map_eq_some_iff] at h1
    obtain ⟨k, rfl, rfl⟩ := h1
    obtain ⟨r, off, fl, cs, hta, hra, hle, rfl⟩ := h2
    obtain ⟨dd, i, ht, hi, hik, hdd⟩ := shapeT_some hk0
    have hv := hS.tms a
    rw [hta] at hv
    simp only [SimV] at hv
    obtain ⟨_, _, b, hb', hy, cur1, e1, hcell1⟩ := hv
    obtain ⟨cur, e0, hcell, hsim, _⟩ := hS.cell hra hb' hcell1
    have hl := hsim.list
    have hlen := hl.length_le
    simp only [Array.length_toList] at hlen
    have hcell' : w'.heap[b]? = some (.cells cur e0 (0, 0)) := hcell
    have hld : (loadVar t ⟨b, off, none⟩).run P w' = .ok (.agg ((cur.toList.drop off).take k).toArray) w' := by
      have hrun := run_load_agg (P := P) (w := w') (b := b) (off := off) ht hi hdd hcell' (by omega)
      rw [hik] at hrun
      simpa [Instr.loadAt, Instr.sureAddr] using hrun
    refine ⟨.agg ((cur.toList.drop off).take k).toArray, by simp [resOne, hy, asAddr, hld], ?_⟩
    simp only [SimV]
    refine ⟨_, rfl, by simp; omega, ?_⟩
    exact ((hl.drop off).take k).shorter k (by simp; omega)
theorem rvs_run {w w' : World} {mu : Nat → Option Nat} {a' : Act} {phi : Nat → Option Nat} {ro : Nat → Prop} (hS : Sim w mu N s a'.tmps w' phi ro) : ∀ {rs : List ResultVar} {rvs : List RV} {xs : List AV}, rs.mapM (resG1 P) = some rvs → rvsOk s rvs xs →
    ∃ ys, (rs.mapM (m := Sem) (resOne a'.tmps)).run P w' = .ok ys w' ∧ SimL xs (ctx w w' ro phi s) ys ∧ ys.length = xs.length
  | [], rvs, xs, h1, h2 => by
    simp at h1
    subst h1
    cases xs with
    | nil => exact ⟨[], by simp, by simp [SimL], rfl⟩
    | cons => exact h2.elim
  | r :: rs, rvs, xs, h1, h2 => by
    rw [List.mapM_cons] at h1
    simp only [Option.bind_eq_bind, Option.bind_eq_some_iff, Option.pure_def, Option.some.injEq] at h1
    obtain ⟨rv, g1, rvs', g2, rfl⟩ := h1
    cases xs with
    | nil => exact h2.elim
    | cons x xs =>
      obtain ⟨y, k1, k2⟩ := rv_run hS g1 h2.1
      obtain ⟨ys, k3, k4, k5⟩ := rvs_run hS g2 h2.2
      refine ⟨y :: ys, ?_, ?_, by simp [k5]⟩
      · rw [List.mapM_cons]
        simp only [Sem.run_bind, k1, Result.andThen_ok, k3, Sem.run_pure]
      · simp only [SimL]; exact ⟨k2, k4⟩
theorem specG_of {f : FuncId} {fn : Func} {code : Code} {ac : ACode} {rvs : List RV} {asx : List AV} {res : AV} (hf : P.funcs[f]? = some fn) (hb : fn.body = some code) (hc : ccode P (min fn.ntmps pbase) code = some ac) (hr : resG P fn = some rvs)
    (h : AW P (min fn.ntmps pbase) ac (enter0 asx) (DoneG rvs res)) : Sp P f asx res := by
  intro w vs hg hent
  refine calls_of_wp hf hb (wp_mono (h code hc w (fun _ => none) _ w ⟨rfl, _, _, enter0_sim hg hent⟩) fun e a' w' hA => ?_)
  obtain ⟨s', h1, hf', phi, ro, hS⟩ := hA
  have fin : (∃ xs, rvsOk s' rvs xs ∧ Outs s' (tupAV xs) res) → a'.defers = [] ∧ ∃ v, (results fn a'.tmps).run P w' = .ok v w' ∧ ∃ v', Ending.returned v = .returned v' ∧ More w w' ∧ SimV res (fresh w w') v' := by
    rintro ⟨xs, hx, ho⟩
    obtain ⟨ys, k1, k2, k3⟩ := rvs_run hS hr hx
    have hr0 : results fn a'.tmps = (do let vs ← fn.results.mapM (resOne a'.tmps); pure (if h : vs.size = 1 then vs[0] else .tuple vs)) := rfl
    have hm : (fn.results.mapM (m := Sem) (resOne a'.tmps)).run P w' = .ok ys.toArray w' := by
      rw [Array.mapM_eq_mapM_toList, Sem.run_map, k1]
      rfl
    refine ⟨hf', if h : ys.toArray.size = 1 then ys.toArray[0] else .tuple ys.toArray, ?_, _, rfl, ⟨hS.os, hS.tape, hS.output, hS.size, fun b hb => hS.kept b hb (fun r => by simp)⟩, ho w (min fn.ntmps pbase) a'.tmps w' phi ro _ hS ?_⟩
    · rw [hr0, Sem.run_bind, hm]
      simp
    · match xs, ys, k2, k3 with
      | [x], [y], k2, _ =>
        simp only [SimL] at k2
        simpa [tupAV] using k2.1
      | [], [], _, _ => simp [tupAV, SimV, SimL]
      | x :: x' :: xs, y :: y' :: ys, k2, k3 =>
        simp only [tupAV, SimV]
        refine ⟨(y :: y' :: ys).toArray, by simp, by simpa using k3, k2⟩
  cases e with
  | normal => exact fin h1
  | ret => exact fin h1
  | exit id => exact h1.elim
  | goto l => exact h1.elim
  | panic c => exact h1.elim
  | outgrown => exact h1.elim
/-- The end of a function with a struct in a variable, and one value more. -/
theorem ret_doneg2 {a k t r : Nat} {fl : Bool} {cs : List AV} {res : AV} (h1 : s.tm a = .pt r 0) (h2 : s.hp r = some (fl, cs)) (h3 : cs.length = k) (h4 : Outs s (.tup [.agg cs, s.tm t]) res) : DoneG [.c a k, .t t] res .ret s :=
  ⟨[.agg cs, s.tm t], ⟨⟨r, 0, fl, cs, h1, h2, by omega, by rw [List.drop_zero, List.take_of_length_le (by omega)]⟩, rfl, trivial⟩, h4⟩
end Go.Am
namespace Go.Am
variable [Go.Am.CodeBlk]
variable {P : Program} {own : Bool} {N : Nat} {s : AS} {K : AS → Prop} {d : Option Nat}
/-- A nil slice in a slot is a slice of an empty region. -/
theorem weak_nilslot (t q z : Nat) (fl : Bool) (ht : s.tm t = .v (.slice none 0 0)) (hq : s.hp q = none) (hqp : q < pbase) : Weak s ((s.mem q (fl, [])).put (some t) (.sl q z 0 0)) := by
  intro w0 mu N a w hS
  obtain ⟨hf, phi, ro, hS⟩ := hS
  have hS1 := hS.born hq hqp (fl, []) none rfl
  refine ⟨hf, _, ro, { hS1 with tms := fun t' => ?_ }⟩
  by_cases e : t' = t
  · subst e
    have h := hS.tms t'
    rw [ht] at h
    simp only [SimV] at h
    show SimV (if t' = t' then .sl q z 0 0 else _) _ _
    rw [if_pos rfl]
    simp only [SimV]
    exact ⟨rfl, by simp [ctx, AS.mem, AS.put], .inl ⟨by simp [ctx], trivial, trivial, h⟩⟩
  · show SimV (if t' = t then .sl q z 0 0 else (s.mem q (fl, [])).tm t') _ _
    rw [if_neg e]
    exact hS1.tms t'
/-- The state's regions behind a call that handed out these, under the names g. -/
def outR (s : AS) (g : Nat → Nat) (ho : List (Nat × (Bool × List AV))) : Hp := fun q => (look (ho.map fun p => (g p.1, renR g p.2)) q).or (s.hp q)
theorem look_isSome {β : Type} {l : List (Nat × β)} {t : Nat} : (look l t).isSome = true ↔ t ∈ l.map (·.1) := by
  induction l with
  | nil => simp [look]
  | cons p l ih =>
    obtain ⟨k, x⟩ := p
    simp only [look, List.map_cons, List.mem_cons]
    by_cases e : t = k
    · simp [e]
    · rw [if_neg e, ih]; simp [e]
theorem look_map {g : Nat → Nat} {h : (Bool × List AV) → (Bool × List AV)} : ∀ {l : List (Nat × (Bool × List AV))} {r : Nat} {c : Bool × List AV}, (l.map fun p => g p.1).Nodup → look l r = some c → look (l.map fun p => (g p.1, h p.2)) (g r) = some (h c)
  | [], _, _, _, e => by simp [look] at e
  | (k, x) :: l, r, c, hn, e => by
    simp only [look, List.map_cons] at e ⊢
    simp only [List.map_cons, List.nodup_cons] at hn
    by_cases hk : r = k
    · subst hk
      rw [if_pos rfl] at e ⊢
      cases e
      rfl
    · rw [if_neg hk] at e
      have hm := look_mem e
      have hne : ¬ g r = g k := fun e2 => hn.1 (List.mem_map.2 ⟨(r, c), hm, e2⟩)
      rw [if_neg hne]
      exact look_map hn.2 e
theorem look_inj {g : Nat → Nat} : ∀ {l : List (Nat × (Bool × List AV))} {r r' : Nat}, (l.map fun p => g p.1).Nodup → r ∈ l.map (·.1) → r' ∈ l.map (·.1) → g r = g r' → r = r'
  | [], _, _, _, h, _, _ => by simp at h
  | (k, x) :: l, r, r', hn, h1, h2, e => by
    simp only [List.map_cons, List.nodup_cons, List.mem_cons] at hn h1 h2
    have key : ∀ q, q ∈ l.map (·.1) → g q ∈ l.map fun p => g p.1 := fun q hq => by
      obtain ⟨p, hp, rfl⟩ := List.mem_map.1 hq
      exact List.mem_map.2 ⟨p, hp, rfl⟩
    rcases h1 with rfl | h1
    · rcases h2 with rfl | h2
      · rfl
      · exact absurd (e ▸ key _ h2) hn.1
    · rcases h2 with rfl | h2
      · exact absurd (e ▸ key _ h1) hn.1
      · exact look_inj hn.2 h1 h2 e
/-- Each region of a list is there, under its name. -/
def HasI (s : AS) (g : Nat → Nat) : List (Nat × (Bool × List AV)) → Prop
  | [] => True
  | (r, c) :: l => s.hp (g r) = some (renR g c) ∧ HasI s g l
def HasO (s : AS) (g : Nat → Nat) : List (Nat × (Bool × List AV)) → Prop
  | [] => True
  | (r, c) :: l => (∃ c0, s.hp (g r) = some c0 ∧ (c0 = renR g c ∨ (c.2 = [] ∧ c0.2 = []))) ∧ HasO s g l
theorem HasI.all {g : Nat → Nat} : ∀ {l : List (Nat × (Bool × List AV))}, HasI s g l → ∀ p ∈ l, s.hp (g p.1) = some (renR g p.2)
  | [], _, _, hp => by simp at hp
  | _ :: _, h, p, hp => by
    rcases List.mem_cons.1 hp with rfl | hp
    · exact h.1
    · exact HasI.all h.2 p hp
theorem HasO.all {g : Nat → Nat} : ∀ {l : List (Nat × (Bool × List AV))}, HasO s g l → ∀ p ∈ l, ∃ c0, s.hp (g p.1) = some c0 ∧ (c0 = renR g p.2 ∨ (p.2.2 = [] ∧ c0.2 = []))
  | [], _, _, hp => by simp at hp
  | _ :: _, h, p, hp => by
    rcases List.mem_cons.1 hp with rfl | hp
    · exact h.1
    · exact HasO.all h.2 p hp
/-- A call that is lent the regions of one list and hands back those of another. -/
theorem m_callR {f : FuncId} {args : List Opd} {asx : List AV} {hl ho : List (Nat × (Bool × List AV))} {res : AV} (g : Nat → Nat) (hs : SpH P f asx (look hl) res (look ho)) (ha : args.map s.ev = renL g asx)
    (hha : ownL true asx = true) (hra : refsL (fun r => (look hl r).isSome) asx = true)
    (hI : HasI s g hl) (hnd : (ho.map fun p => g p.1).Nodup) (hst : ∀ p ∈ hl, p.1 ∈ ho.map (·.1)) (hfr : ∀ p ∈ ho, p.1 ∈ hl.map (·.1) ∨ (s.hp (g p.1) = none ∧ g p.1 < pbase))
    (hoI : ∀ p ∈ hl, ownL true p.2.2 = true ∧ refsL (fun r => (look hl r).isSome) p.2.2 = true) (hoO : ∀ p ∈ ho, ownL false p.2.2 = true) (hoR : ownV false res = true)
    (k : K (AS.put ⟨s.tm, outR s g ho⟩ d (renV g res))) : aop1 P true ⟨d, .call f args, none⟩ s K := by
  have has := hI.all
  refine m_callh g hs ?_ ⟨fun r c hc => has _ (look_mem hc), fun r r' h1 h2 e => look_inj hnd (look_isSome.1 h1) (look_isSome.1 h2) e, fun r hr => ?_, fun r hr hn => ?_, fun r c hc => ?_, fun q hq => ?_, fun r c hc => hoI _ (look_mem hc), fun r c hc => hoO _ (look_mem hc), hoR⟩ k
  · rw [ha]
    exact lendsH_ren (fun r c hc => by rw [has _ (look_mem hc)]; rfl) hha hra
  · obtain ⟨p, hp, rfl⟩ := List.mem_map.1 (look_isSome.1 hr)
    exact look_isSome.2 (hst p hp)
  · obtain ⟨p, hp, rfl⟩ := List.mem_map.1 (look_isSome.1 hr)
    rcases hfr p hp with h1 | h1
    · have := look_isSome.2 h1
      rw [hn] at this
      cases this
    · exact h1
  · show (look _ (g r)).or _ = _
    rw [look_map hnd hc]
    rfl
  · show (look (ho.map fun p => (g p.1, renR g p.2)) q).or _ = _
    have : look (ho.map fun p => (g p.1, renR g p.2)) q = none := by
      cases h : look (ho.map fun p => (g p.1, renR g p.2)) q with
      | none => rfl
      | some c =>
        obtain ⟨p, hp, e⟩ := List.mem_map.1 (look_mem h)
        cases e
        exact absurd rfl (hq p.1 (look_isSome.2 (List.mem_map.2 ⟨p, hp, rfl⟩)))
    rw [this]
    rfl
/-- What is asked of such lists. -/
theorem static_R {hl ho : List (Nat × (Bool × List AV))} {res : AV} (h1 : ∀ p ∈ hl, pbase ≤ p.1) (h2 : ∀ p ∈ ho, ownL false p.2.2 = true ∧ refsL (fun r => (look ho r).isSome) p.2.2 = true) (h3 : ownV false res = true ∧ refsV (fun r => (look ho r).isSome) res = true) : Static (look hl) res (look ho) :=
  ⟨fun r hr => by
    obtain ⟨p, hp, rfl⟩ := List.mem_map.1 (look_isSome.1 hr)
    exact h1 p hp, fun r c hc => h2 _ (look_mem hc), h3⟩
/-- The end of such a function. -/
theorem ret_R {ts : List Nat} {res : AV} {hl ho : List (Nat × (Bool × List AV))} (g : Nat → Nat) (h1 : resAV s ts = renV g res) (hO : HasO s g ho) (h3 : ∀ p ∈ hl, g p.1 = p.1 ∧ p.1 ∈ ho.map (·.1))
    (h4 : ∀ p ∈ ho, p.1 ∈ hl.map (·.1) ∨ g p.1 < pbase) (h5 : (ho.map fun p => g p.1).Nodup) : DoneH ts res (look hl) (look ho) .ret s := by
  have h2 := hO.all
  refine ret_doneh g h1 (fun r c hc => h2 _ (look_mem hc)) (fun r hr => ?_) (fun r hr hn => ?_) fun r r' a b e => look_inj h5 (look_isSome.1 a) (look_isSome.1 b) e
  · obtain ⟨p, hp, rfl⟩ := List.mem_map.1 (look_isSome.1 hr)
    exact ⟨(h3 p hp).1, look_isSome.2 (h3 p hp).2⟩
  · obtain ⟨p, hp, rfl⟩ := List.mem_map.1 (look_isSome.1 hr)
    rcases h4 p hp with k | k
    · have := look_isSome.2 k
      rw [hn] at this
      cases this
    · exact k
/-- Regions under other names; cells that lead nowhere stay asx they are. -/
def HasJ (s : AS) (f : Nat → Nat) : List (Nat × (Bool × List AV)) → Prop
  | [] => True
  | (r, (true, cs)) :: l => s.hp (f r) = some (true, cs) ∧ HasJ s f l
  | (r, (false, cs)) :: l => s.hp (f r) = some (false, renL f cs) ∧ HasJ s f l
theorem HasJ.at {f : Nat → Nat} : ∀ {h : List (Nat × (Bool × List AV))} {r : Nat} {c : Bool × List AV}, HasJ s f h → (r, c) ∈ h → ∃ c0, s.hp (f r) = some c0 ∧ cellsRen f c0 c
  | [], _, _, _, hm => by simp at hm
  | (k, (true, cs)) :: l, r, c, h, hm => by
    rcases List.mem_cons.1 hm with e | hm
    · cases e; exact ⟨_, h.1, .inl ⟨rfl, rfl⟩⟩
    · exact HasJ.at h.2 hm
  | (k, (false, cs)) :: l, r, c, h, hm => by
    rcases List.mem_cons.1 hm with e | hm
    · cases e; exact ⟨_, h.1, .inr ⟨rfl, .inl rfl⟩⟩
    · exact HasJ.at h.2 hm
/-- What is not told is forgotten, and what is told may get other names. -/
theorem weak_stR {l : List (Nat × AV)} {h : List (Nat × (Bool × List AV))} (f : Nat → Nat) (hl : HasF s f l) (hh : HasJ s f h) (hnd : (h.map fun p => f p.1).Nodup) (hpb : ∀ p ∈ h, (p.1 < pbase ∧ f p.1 < pbase) ∨ (pbase ≤ p.1 ∧ f p.1 = p.1))
    (hr : refsT (fun r => (look h r).isSome) l = true) (hrh : refsH (fun r => (look h r).isSome) h = true) : Weak s (st l h) := by
  refine weak_ren f (fun t => ?_) (fun r c' hc => hh.at (look_mem hc)) (fun r r' h1 h2 e => look_inj hnd (look_isSome.1 h1) (look_isSome.1 h2) e) (fun r hr' => ?_) (fun t => ?_) (fun r cs hc => ?_)
  · show (look l t).getD .any = .any ∨ s.tm t = renV f ((look l t).getD .any)
    cases hx : look l t with
    | none => exact .inl rfl
    | some x => exact .inr (look_hasF hl hx)
  · obtain ⟨p, hp, rfl⟩ := List.mem_map.1 (look_isSome.1 hr')
    exact hpb p hp
  · show refsV (fun r => (look h r).isSome) ((look l t).getD .any) = true
    cases hx : look l t with
    | none => rfl
    | some x => exact look_refs hr hx
  · have h1 : (false || refsL (fun r => (look h r).isSome) cs) = true := look_refsH hrh hc
    rw [Bool.false_or] at h1
    exact h1
/-- A loop that is left in many places goes on from one state. -/
def CutQ (R : AS) (Q : Exit → AS → Prop) : Exit → AS → Prop
  | .normal, s => Weak s R
  | e, s => Q e s
theorem AW_cutloop {id : Nat} {c y : ACode} {Q : Exit → AS → Prop} (R : AS) (k : AW P N y R Q) (h : AW P N (.loop c) s (InBlock id (CutQ R Q))) : AW P N (.loop c) s (InBlock id (Then (fun s' => AW P N y s' Q) Q)) := by
  have key : ∀ e s', CutQ R Q e s' → Then (fun s' => AW P N y s' Q) Q e s' := by
    intro e s' he
    cases e <;> first | exact AW_weak he k | exact he
  refine AW_mono h fun e s' he => ?_
  cases e with
  | exit i =>
    simp only [InBlock] at he ⊢
    split at he
    · rename_i hi
      rw [if_pos hi]
      exact key _ _ he
    · rename_i hi
      rw [if_neg hi]
      exact key _ _ he
  | normal => exact key .normal _ he
  | ret => exact key .ret _ he
  | goto l => exact key (.goto l) _ he
  | panic x => exact key (.panic x) _ he
  | outgrown => exact key .outgrown _ he
end Go.Am
namespace Go.Am
variable [Go.Am.CodeBlk]
/-- May a function value, of which the first k that it bears stand before the arguments and the others behind, be asked whether a guest fits behind a list? -/
structure AsksK (P : Program) (f : FuncId) (fl : List AV) (k : Nat) (n : Nat) (fits : List Int → Nat → Bool) : Prop where
  call : Callable P f
  bears : Bears fl
  norefs : ∀ keep, refsL keep fl = true
  nokill : ∀ r, killL r fl = fl
  spec : ∀ (M : List Int) (y : Nat), M.length < n → (∀ x ∈ M, 0 ≤ x ∧ x < n) → y < n → Sp P f (fl.take k ++ [ints M, .i y] ++ fl.drop k) (.b (fits M y))
theorem bears_sub {l m : List AV} (h : Bears m) (hs : ∀ x ∈ l, x ∈ m) : Bears l := fun hp x hx => h hp x (hs x hx)
theorem lends_app {hp : Hp} : ∀ {xs asx : List AV} {ys bs : List AV}, Lends hp xs asx → xs.length = asx.length → Lends hp ys bs → Lends hp (xs ++ ys) (asx ++ bs) := by
  intro xs asx ys bs h1 hl h2 w0 mu N tm w phi ro vs hS hs hlen
  have hsp : vs = vs.take xs.length ++ vs.drop xs.length := (List.take_append_drop _ _).symm
  have key : ∀ (xs ys : List AV) (C : Ctx) (us ws : List Value), us.length = xs.length → SimL (xs ++ ys) C (us ++ ws) → SimL xs C us ∧ SimL ys C ws := by
    intro xs
    induction xs with
    | nil => intro ys C us ws hl h; have : us = [] := List.eq_nil_of_length_eq_zero (by simpa using hl); subst this; exact ⟨by simp [SimL], h⟩
    | cons a l ih =>
      intro ys C us ws hl h
      match us with
      | [] => simp at hl
      | u :: us =>
        simp only [List.cons_append, SimL] at h ⊢
        obtain ⟨h3, h4⟩ := ih ys C us ws (by simpa using hl) h.2
        exact ⟨⟨h.1, h3⟩, h4⟩
  have key2 : ∀ (asx bs : List AV) (C : Ctx) (us ws : List Value), us.length = asx.length → SimL asx C us → SimL bs C ws → SimL (asx ++ bs) C (us ++ ws) := by
    intro asx
    induction asx with
    | nil => intro bs C us ws hl _ h; have : us = [] := List.eq_nil_of_length_eq_zero (by simpa using hl); subst this; exact h
    | cons a l ih =>
      intro bs C us ws hl h h2
      match us with
      | [] => simp at hl
      | u :: us =>
        simp only [List.cons_append, SimL] at h ⊢
        exact ⟨h.1, ih bs C us ws (by simpa using hl) h.2 h2⟩
  have hl1 : (vs.take xs.length).length = xs.length := by rw [List.length_take, hlen, List.length_append]; omega
  have hl2 : (vs.drop xs.length).length = ys.length := by rw [List.length_drop, hlen, List.length_append]; omega
  rw [hsp] at hs
  obtain ⟨h3, h4⟩ := key xs ys _ _ _ hl1 hs
  obtain ⟨h5, h6⟩ := h1 w0 mu N tm w phi ro _ hS h3 hl1
  obtain ⟨h7, h8⟩ := h2 w0 mu N tm w phi ro _ hS h4 hl2
  refine ⟨?_, by rw [List.length_append, ← h6, ← h8, ← List.length_append, ← hsp]⟩
  rw [hsp]
  exact key2 asx bs _ _ _ (by rw [hl1, hl]) h5 h7
theorem asksK_lend {s : AS} {fl : List AV} {k : Nat} {args : List Opd} {xs ys : List AV} (h : Bears fl) (he : args.map s.ev = xs) (hl : xs.length = ys.length) (kk : Lends s.hp xs ys) : Lends s.hp (fl.take k ++ args.map s.ev ++ fl.drop k) (fl.take k ++ ys ++ fl.drop k) := by
  rw [he]
  have h1 := bears_sub (l := fl.take k) h fun x hx => List.mem_of_mem_take hx
  have h2 := bears_sub (l := fl.drop k) h fun x hx => List.mem_of_mem_drop hx
  refine lends_app (lends_bears h1 _ kk) (by simp [hl]) (lends_self h2 _)
/-- A function value that captured one plain value is handed out. -/
theorem outs_fnp {s : AS} {f : FuncId} {r : Nat} {v : AV} (hr : s.hp r = some (true, [v])) (hv : plainV v = true) : Outs s (.fn f [.pt r 0] 0) (.fn f [.rp [v]] 0) := by
  intro w0 N tm w phi ro y hS hy
  simp only [SimV] at hy ⊢
  obtain ⟨a, b, h1, h2, h3, h4⟩ := hy
  refine ⟨a, b, h1, h2, h3, ?_⟩
  generalize a.toList ++ b.toList = l at h4
  match l with
  | [] => simp [SimL] at h4
  | x :: xs =>
    simp only [SimL, and_true, SimV] at h4 ⊢
    obtain ⟨_, _, b', k1, k2, cur, e, k3⟩ := h4
    refine ⟨b', 0, cur, e, (0, 0), k2, k3, ?_, ?_⟩
    · rcases hS.liv r _ hr with ⟨h8, _⟩ | ⟨b2, cur2, e2, h8, h9, h10, h11, h12⟩ | ⟨b2, o', h0, _⟩
      · have h8' : phi r = some b' := k1
        rw [h8] at h8'; cases h8'
      · have h8' : phi r = some b' := k1
        rw [h8] at h8'; cases h8'
        exact ⟨(h11.resolve_right fun h => by cases h.2).2.resolve_right (fun h => by obtain ⟨_, _, h⟩ := h; cases h), lt_of_get k3⟩
      · cases h0; simp [plainV] at hv
    · rcases hS.liv r _ hr with ⟨h8, _⟩ | ⟨b2, cur2, e2, h8, h9, h10, h11, h12⟩ | ⟨b2, o', h0, _⟩
      · have h8' : phi r = some b' := k1
        rw [h8] at h8'; cases h8'
      · have h8' : phi r = some b' := k1
        rw [h8] at h8'; cases h8'
        have k3' : w.heap[b']? = some (.cells cur e (0, 0)) := k3
        rw [h9] at k3'
        cases k3'
        simp only [SimR, if_true] at h12
        rw [List.drop_zero]
        exact simL_allv (by simp [hv]) h12
      · cases h0; simp [plainV] at hv
end Go.Am
namespace Go.Am
variable [Go.Am.CodeBlk]
mutual
/-- Exact values, and slices and pointers that are read, all through. -/
def readV : AV → Bool
  | .v _ => true
  | .ro fr _ cs _ => !fr && readL cs
  | .rp cs => readL cs
  | .any => false
  | .sl _ _ _ _ => false
  | .pt _ _ => false
  | .agg _ => false
  | .tup _ => false
  | .mp _ => false
  | .itr _ => false
  | .ob _ => false
  | .fn _ _ _ => false
  | .rmp _ _ _ => false
  | .fu _ _ _ => false
  | .mit _ _ _ _ _ => false
def readL : List AV → Bool
  | [] => true
  | a :: l => readV a && readL l
end
mutual
theorem SimV.read : ∀ (x : AV) (C D : Ctx) (y : Value), readV x = true → D.heap = C.heap → (∀ b, C.ro b → D.ro b) → SimV x C y → SimV x D y
  | .v _, _, _, _, _, _, _, h => by simpa only [SimV] using h
  | .ro fr z cs n, C, D, y, hr, hh, hro, h => by
    simp only [readV, Bool.and_eq_true, Bool.not_eq_true'] at hr
    simp only [SimV] at h ⊢
    rcases h with h | ⟨b, o, cap, cur, e, fz, h1, h2, h3, h4, h5, h6, h7⟩
    · exact .inl h
    · exact .inr ⟨b, o, cap, cur, e, fz, h1, by rw [hh]; exact h2, hro b h3, h4, h5, (fun e => by rw [hr.1] at e; cases e), SimL.read cs C.out D.out _ hr.2 hh hro h7⟩
  | .rp cs, C, D, y, hr, hh, hro, h => by
    simp only [readV] at hr
    simp only [SimV] at h ⊢
    obtain ⟨b, o, cur, e, fz, h1, h2, h3, h4⟩ := h
    exact ⟨b, o, cur, e, fz, h1, by rw [hh]; exact h2, hro b h3, SimL.read cs C.out D.out _ hr hh hro h4⟩
  | .any, _, _, _, hr, _, _, _ => by simp [readV] at hr
  | .sl _ _ _ _, _, _, _, hr, _, _, _ => by simp [readV] at hr
  | .pt _ _, _, _, _, hr, _, _, _ => by simp [readV] at hr
  | .agg _, _, _, _, hr, _, _, _ => by simp [readV] at hr
  | .tup _, _, _, _, hr, _, _, _ => by simp [readV] at hr
  | .mp _, _, _, _, hr, _, _, _ => by simp [readV] at hr
  | .itr _, _, _, _, hr, _, _, _ => by simp [readV] at hr
  | .ob _, _, _, _, hr, _, _, _ => by simp [readV] at hr
  | .fn _ _ _, _, _, _, hr, _, _, _ => by simp [readV] at hr
  | .rmp _ _ _, _, _, _, hr, _, _, _ => by simp [readV] at hr
  | .fu _ _ _, _, _, _, hr, _, _, _ => by simp [readV] at hr
  | .mit _ _ _ _ _, _, _, _, hr, _, _, _ => by simp [readV] at hr
theorem SimL.read : ∀ (l : List AV) (C D : Ctx) (ys : List Value), readL l = true → D.heap = C.heap → (∀ b, C.ro b → D.ro b) → SimL l C ys → SimL l D ys
  | [], _, _, _, _, _, _, _ => by simp [SimL]
  | _ :: _, _, _, [], _, _, _, h => by simp [SimL] at h
  | a :: l, C, D, y :: ys, hr, hh, hro, h => by
    simp only [readL, Bool.and_eq_true] at hr
    simp only [SimL] at h ⊢
    exact ⟨SimV.read a C D y hr.1 hh hro h.1, SimL.read l C D ys hr.2 hh hro h.2⟩
end
end Go.Am
namespace Go.Am
variable [Go.Am.CodeBlk]
variable {P : Program} {own : Bool} {N : Nat} {s : AS} {K : AS → Prop} {d : Option Nat}
/-- What a value is to a callee that is lent regions under the names g. -/
def LendH1 (hp : Hp) (g : Nat → Nat) (hin : Hp) (x y : AV) : Prop := ∀ w0 mu N tm w phi ro v, Sim w0 mu N ⟨fun _ => .any, hp⟩ tm w phi ro → SimV x (ctx w0 w ro phi ⟨fun _ => .any, hp⟩) v → SimV y (ctxE w (fun r => phi (g r)) hin) v
theorem lendH_nil {hp : Hp} {g : Nat → Nat} {hin : Hp} : LendsH hp g hin [] [] := fun _ _ _ _ _ _ _ vs _ _ hl => ⟨by simp [SimL], hl⟩
theorem lendH_cons {hp : Hp} {g : Nat → Nat} {hin : Hp} {x y : AV} {xs ys : List AV} (h : LendH1 hp g hin x y) (hs : LendsH hp g hin xs ys) : LendsH hp g hin (x :: xs) (y :: ys) := by
  intro w0 mu N tm w phi ro vs hS hv hl
  cases vs with
  | nil => simp at hl
  | cons v vs =>
    simp only [SimL] at hv
    obtain ⟨h1, h2⟩ := hs w0 mu N tm w phi ro vs hS hv.2 (by simpa using hl)
    exact ⟨⟨h w0 mu N tm w phi ro v hS hv.1, h1⟩, by simpa using h2⟩
theorem lendH_v {hp : Hp} {g : Nat → Nat} {hin : Hp} {c : Value} : LendH1 hp g hin (.v c) (.v c) := fun _ _ _ _ _ _ _ _ _ h => by simpa [SimV] using h
/-- A block that somebody reads is not lent. -/
theorem not_lent {hp : Hp} {g : Nat → Nat} {hin : Hp} (hin1 : ∀ r c, hin r = some c → (hp (g r)).isSome = true) {w0 : World} {mu : Nat → Option Nat} {N : Nat} {tm : Array Value} {w : World} {phi : Nat → Option Nat} {ro : Nat → Prop} (hS : Sim w0 mu N ⟨fun _ => .any, hp⟩ tm w phi ro) {b : Nat} (hb : ro b) :
    b < w.heap.size ∧ ∀ r, (hin r).isSome = true → phi (g r) ≠ some b := by
  refine ⟨hS.rob b hb, fun r hr hp' => ?_⟩
  obtain ⟨c, hc⟩ := Option.isSome_iff_exists.1 hr
  obtain ⟨c', hc'⟩ := Option.isSome_iff_exists.1 (hin1 r c hc)
  rcases hS.liv _ _ hc' with ⟨h1, _⟩ | ⟨b', _, _, h1, _, h2, _⟩ | ⟨b', _, _, h1, _, _, h2, _⟩
  · rw [h1] at hp'; cases hp'
  · rw [h1] at hp'; cases hp'
    exact h2 hb
  · rw [h1] at hp'; cases hp'
    exact h2 hb
theorem lendH_ren {hp : Hp} {g : Nat → Nat} {hin : Hp} {x : AV} (hin1 : ∀ r c, hin r = some c → (hp (g r)).isSome = true) (ho : ownV true x = true) (hr : refsV (fun r => (hin r).isSome) x = true) : LendH1 hp g hin (renV g x) x := by
  intro w0 mu N tm w phi ro v hS hv
  exact simV_in true g (ctxE w (fun r => phi (g r)) hin) (ctx w0 w ro phi ⟨fun _ => .any, hp⟩) rfl (fun _ b hb => not_lent hin1 hS hb) (fun _ => rfl) (fun _ r _ => rfl) x v ho hr hv
/-- A region of mine that is not lent is read. -/
theorem lendH_sl {hp : Hp} {g : Nat → Nat} {hin : Hp} {q : Nat} {M : List Int} (hin1 : ∀ r c, hin r = some c → (hp (g r)).isSome = true) (hq : hp q = some (true, M.map AV.i)) (hne : ∀ r, (hin r).isSome = true → g r ≠ q) : LendH1 hp g hin (.sl q 1 0 M.length) (ints M) := by
  intro w0 mu N tm w phi ro v hS h
  simp only [SimV] at h ⊢
  rcases h.2.2 with ⟨h1, _, h3, h4⟩ | ⟨b, o, cap, cur, e, h1, h2, h3, h4, h5, h6, h7⟩
  · exact .inl ⟨h3, by rw [List.eq_nil_of_length_eq_zero h3]; rfl, none, 0, by rw [h4], by simp⟩
  · by_cases hn : M.length = 0
    · exact .inl ⟨hn, by rw [List.eq_nil_of_length_eq_zero hn]; rfl, some ⟨b, o, none⟩, cap, by rw [h2, hn], by simp⟩
    · have ho : o = 0 := by
        rcases h4 with h4 | h4
        · exact h4
        · exact absurd h4.1 hn
      subst ho
      have h1' : phi q = some b := h1
      have h3' : w.heap[b]? = some (.cells cur e (0, 0)) := h3
      rcases hS.liv q _ hq with ⟨h8, _⟩ | ⟨b', cur', e', h8, h9, h10, h11, h12⟩ | ⟨b', o', _, h8, h9, h10, _⟩
      · rw [h8] at h1'; cases h1'
      case inr.inr => exact ob_not_cells h8 h9 h10 h1 h3
      · rw [h8] at h1'
        cases h1'
        rw [h9] at h3'
        cases h3'
        refine .inr ⟨b, 0, cap, cur, e, (0, 0), h2, h9, ⟨lt_of_get h9, fun r hr hp' => ?_⟩, by simp, h5, by simp, ?_⟩
        · obtain ⟨c, hc⟩ := Option.isSome_iff_exists.1 hr
          exact hne r hr (hS.inj _ _ b (hin1 r c hc) (by show (hp q).isSome = true; rw [hq]; rfl) hp' h8)
        · simp only [SimR, if_true] at h12
          rw [List.drop_zero]
          exact simL_allv (allv_ints M) h12
end Go.Am
namespace Go.Am
variable [Go.Am.CodeBlk]
/-- One new map. -/
abbrev oneM (es : Array MapEntry) (ck : Nat) : List (Nat × (Bool × List AV)) := [(nbase, (true, [.ob (.map es ck)]))]
theorem spH_clone {P : Program} {f : FuncId} (h : ∀ (b : Nat) (es : Array MapEntry) (clock : Nat) (w : World), w.heap[b]? = some (.map es clock) → Calls P f #[.map (some b)] w fun e w' => e = .returned (.map (some w.heap.size)) ∧ w' = w.alloc (.map es clock))
    (es : Array MapEntry) (ck : Nat) : SpH P f [.rmp false es ck] (fun _ => none) (.mp nbase) (look (oneM es ck)) := by
  intro w vs phi _ _ _ _ hs hl
  obtain ⟨l⟩ := vs
  match l with
  | [] => simp at hl
  | _ :: _ :: _ => simp at hl
  | [a] =>
    simp only [SimL, SimV, and_true] at hs
    obtain ⟨b, rfl, hb, _, _⟩ := hs
    refine (h b es ck w hb).mono fun e w' hp => ?_
    obtain ⟨rfl, rfl⟩ := hp
    refine ⟨_, fun r => if r = nbase then some w.heap.size else none, rfl, rfl, rfl, rfl, by simp, fun r hr => by simp at hr, fun b hb _ => heap_alloc_old w _ hb, fun b cur e fz hb => ⟨cur, (heap_alloc_old w _ (lt_of_get hb)).trans hb, rfl⟩, ?_, ?_, ?_, ?_⟩
    · intro r r' b h1 h2 e1 e2
      have k1 := look_isSome.1 h1
      have k2 := look_isSome.1 h2
      simp at k1 k2
      rw [k1, k2]
    · intro r b h1 _ e1
      have e1 : (if r = nbase then some w.heap.size else none) = some b := e1
      split at e1
      · cases e1; exact Nat.le_refl _
      · cases e1
    · intro r c hc
      have hm := look_mem hc
      simp at hm
      obtain ⟨rfl, rfl⟩ := hm
      exact .inr (.inr ⟨w.heap.size, .map es ck, rfl, (if_pos rfl : (if nbase = nbase then some w.heap.size else none) = some w.heap.size), heap_alloc_new w _, rfl⟩)
    · simp only [SimV]
      exact ⟨rfl, rfl, w.heap.size, (if_pos rfl : (if nbase = nbase then some w.heap.size else none) = some w.heap.size), rfl⟩
/-- A map is cloned, into a region q. -/
theorem m_clone {P : Program} {s : AS} {K : AS → Prop} {d : Option Nat} {f : FuncId} {x : Opd} {es : Array MapEntry} {ck : Nat} (q : Nat) (hs : SpH P f [.rmp false es ck] (fun _ => none) (.mp nbase) (look (oneM es ck))) (hx : MapAt s (s.ev x) es ck)
    (hq : s.hp q = none) (hqp : q < pbase) (k : K ((s.mem q (true, [.ob (.map es ck)])).put d (.mp q))) : aop1 P true ⟨d, .call f [x], none⟩ s K := by
  have hl : Lends s.hp [s.ev x] [.rmp false es ck] := by
    rcases hx with ⟨r, h1, h2⟩ | ⟨fr, h1⟩
    · rw [h1]; exact lends_cons (lend_map h2) lends_nil
    · rw [h1]; exact lends_cons lend_rmp lends_nil
  have hg : ∀ r, ((look (oneM es ck)) r).isSome = true → r = nbase := fun r hr => by have := look_isSome.1 hr; simpa using this
  refine m_callh (hp' := (s.mem q (true, [.ob (.map es ck)])).hp) (fun _ => q) hs (lendsH_none hl) ⟨fun r c h => by simp at h, fun r r' h1 h2 _ => by rw [hg r h1, hg r' h2], fun r h => by simp at h, fun r _ _ => ⟨hq, hqp⟩, fun r c hc => ?_, fun p hp => ?_, fun r c h => by simp at h, fun r c hc => ?_, rfl⟩ k
  · have hm := look_mem hc
    simp at hm
    obtain ⟨rfl, rfl⟩ := hm
    simp [AS.mem]; rfl
  · have : p ≠ q := fun e => hp nbase rfl e.symm
    simp [AS.mem, this]
  · have hm := look_mem hc
    simp at hm
    obtain ⟨rfl, rfl⟩ := hm
    rfl
end Go.Am
namespace Go.Proofs.YtmmcldbldbpikaaGreatDoor
variable [Go.Am.CodeBlk]
open Go.Am
def cloneRenP : Go.Shelf.Ren := ⟨fun | 5 => 89 | 7 => 95 | n => n, fun | 4 => 4 | 20 => 20 | 23 => 81 | 25 => 79 | 3 => 4 | n => n, fun n => n⟩
theorem cloneLayP : SlLaysW.n5 Tryz.prog cloneRenP := {
  mixed := by kernel_rfl
  f5 := ⟨Tryz.f89.name, by kernel_rfl, Tryz.func89.trans (congrArg some (by kernel_rfl))⟩
  f7 := Tryz.func95.trans (congrArg some (by kernel_rfl))
  t4 := Tryz.underlying4
  a4 := Tryz.isAgg4
  z4 := Tryz.sizeOf4
  v4 := Tryz.zeroValue4
  t20 := Tryz.underlying20
  a20 := Tryz.isAgg20
  z20 := Tryz.sizeOf20
  v20 := Tryz.zeroValue20
  t23 := Tryz.underlying81
  a23 := Tryz.isAgg81
  z23 := Tryz.sizeOf81
  v23 := Tryz.zeroValue81 }
theorem clonePlaces_spec (es : Array MapEntry) (ck : Nat) : SpH Tryz.prog 89 [.rmp false es ck] (fun _ => none) (.mp nbase) (Am.look (oneM es ck)) :=
  spH_clone (fun b es clock w hb => AnyW.maps_Clone cloneLayP b es clock w hb) es ck
def cloneRenW : Go.Shelf.Ren := ⟨fun | 5 => 90 | 7 => 95 | n => n, fun | 4 => 4 | 20 => 20 | 23 => 90 | 25 => 64 | 3 => 3 | n => n, fun n => n⟩
theorem cloneLayW : SlLaysW.n5 Tryz.prog cloneRenW := {
  mixed := by kernel_rfl
  f5 := ⟨Tryz.f90.name, by kernel_rfl, Tryz.func90.trans (congrArg some (by kernel_rfl))⟩
  f7 := Tryz.func95.trans (congrArg some (by kernel_rfl))
  t4 := Tryz.underlying4
  a4 := Tryz.isAgg4
  z4 := Tryz.sizeOf4
  v4 := Tryz.zeroValue4
  t20 := Tryz.underlying20
  a20 := Tryz.isAgg20
  z20 := Tryz.sizeOf20
  v20 := Tryz.zeroValue20
  t23 := Tryz.underlying90
  a23 := Tryz.isAgg90
  z23 := Tryz.sizeOf90
  v23 := Tryz.zeroValue90 }
theorem cloneWays_spec (es : Array MapEntry) (ck : Nat) : SpH Tryz.prog 90 [.rmp false es ck] (fun _ => none) (.mp nbase) (Am.look (oneM es ck)) :=
  spH_clone (fun b es clock w hb => AnyW.maps_Clone cloneLayW b es clock w hb) es ck
end Go.Proofs.YtmmcldbldbpikaaGreatDoor
namespace Go.Am
variable [Go.Am.CodeBlk]
/-- A text cut at slashes, at most k times. -/
def splitNB : Nat → List UInt8 → List (List UInt8)
  | 0, B => [B]
  | k + 1, B => if (47 : UInt8) ∈ B then B.takeWhile (· != 47) :: splitNB k (B.drop ((B.takeWhile (· != 47)).length + 1)) else [B]
/-- A text cut at all slashes. -/
def splitB (B : List UInt8) : List (List UInt8) := splitNB (B.count 47) B
theorem takeWhile_cut {p q : List UInt8} (h : (47 : UInt8) ∉ p) : (p ++ 47 :: q).takeWhile (· != 47) = p := by
  induction p with
  | nil => simp
  | cons a p ih =>
    have h1 : a ≠ 47 := fun e => h (by simp [e])
    simp [h1, ih (fun hh => h (by simp [hh]))]
theorem splitNB_cut {p q : List UInt8} (h : (47 : UInt8) ∉ p) (k : Nat) : splitNB (k + 1) (p ++ 47 :: q) = p :: splitNB k q := by
  rw [splitNB, if_pos (by simp), takeWhile_cut h]
  congr 2
  rw [List.drop_append, List.drop_of_length_le (by omega)]
  simp
theorem splitNB_one {B : List UInt8} (h : (47 : UInt8) ∉ B) (k : Nat) : splitNB k B = [B] := by
  cases k with
  | zero => rfl
  | succ k => rw [splitNB, if_neg h]
theorem cut_at {B : List UInt8} (h : (47 : UInt8) ∈ B) : ∃ p q, (47 : UInt8) ∉ p ∧ B = p ++ 47 :: q := by
  induction B with
  | nil => simp at h
  | cons a B ih =>
    by_cases ha : a = 47
    · exact ⟨[], B, by simp, by simp [ha]⟩
    · have hm : (47 : UInt8) ∈ B := by
        rcases List.mem_cons.1 h with e | e
        · exact absurd e.symm ha
        · exact e
      obtain ⟨p, q, h1, h2⟩ := ih hm
      exact ⟨a :: p, q, by simp [h1]; exact fun e => ha e.symm, by simp [h2]⟩
theorem count_cut {p q : List UInt8} (h : (47 : UInt8) ∉ p) : (p ++ 47 :: q).count 47 = q.count 47 + 1 := by
  rw [List.count_append, List.count_eq_zero.2 h, List.count_cons_self]
  omega
theorem splitB_cut {p q : List UInt8} (h : (47 : UInt8) ∉ p) : splitB (p ++ 47 :: q) = p :: splitB q := by
  unfold splitB
  rw [count_cut h, splitNB_cut h]
theorem splitB_one {B : List UInt8} (h : (47 : UInt8) ∉ B) : splitB B = [B] := splitNB_one h _
theorem splitNB_len : ∀ (k : Nat) (B : List UInt8), (splitNB k B).length = min k (B.count 47) + 1
  | 0, B => by simp [splitNB]
  | k + 1, B => by
    by_cases h : (47 : UInt8) ∈ B
    · obtain ⟨p, q, h1, rfl⟩ := cut_at h
      rw [splitNB_cut h1, List.length_cons, splitNB_len k q, count_cut h1]
      omega
    · rw [splitNB_one h, List.count_eq_zero.2 h]
      simp
theorem splitNB_all : ∀ (k : Nat) (B : List UInt8), B.count 47 ≤ k → splitNB k B = splitB B
  | k, B, hk => by
    by_cases h : (47 : UInt8) ∈ B
    · obtain ⟨p, q, h1, rfl⟩ := cut_at h
      rw [count_cut h1] at hk
      cases k with
      | zero => omega
      | succ k => rw [splitNB_cut h1, splitB_cut h1, splitNB_all k q (by omega)]
    · rw [splitNB_one h, splitB_one h]
theorem splitB_len (B : List UInt8) : (splitB B).length = B.count 47 + 1 := by
  unfold splitB
  rw [splitNB_len]
  omega
/-- A board that is well told: asx many rows asx there are signs in each, all of them signs. -/
def GoodBd (B : List UInt8) : Prop := B.count 47 ≤ 7 ∧ ∀ r ∈ splitB B, r.length = B.count 47 + 1 ∧ ∀ c ∈ r, c = 46 ∨ c = 35
instance (B : List UInt8) : Decidable (GoodBd B) := inferInstanceAs (Decidable (_ ∧ _))
/-- The side of a board, and what is forbidden. -/
def sdB (B : List UInt8) : Nat := B.count 47 + 1
def fbB (B : List UInt8) (i j : Nat) : Bool := decide (((splitB B).getD i []).getD j 0 = 35)
theorem getD_get {α : Type} {l : List α} {d : α} {j : Nat} (h : j < l.length) : l.getD j d = l[j] := by simp [h]
theorem good_sd {B : List UInt8} (h : GoodBd B) : 1 ≤ sdB B ∧ sdB B ≤ 8 := ⟨by unfold sdB; omega, by have := h.1; unfold sdB; omega⟩
theorem indexByte_cut {p q : List UInt8} (h : (47 : UInt8) ∉ p) : Lib.indexByte (p ++ 47 :: q) 47 = p.length := by
  induction p with
  | nil => simp [Lib.indexByte]
  | cons a p ih =>
    have h1 : (a == 47) = false := by
      rw [beq_eq_false_iff_ne]
      exact fun e => h (by simp [e])
    have h2 := ih (fun hh => h (by simp [hh]))
    rw [List.cons_append, Lib.indexByte, h1, h2]
    have : ((p.length : Int) == -1) = false := by
      rw [beq_eq_false_iff_ne]; omega
    simp [this]
theorem indexByte_none {B : List UInt8} (h : (47 : UInt8) ∉ B) : Lib.indexByte B 47 = -1 := by
  induction B with
  | nil => rfl
  | cons a p ih =>
    have h1 : (a == 47) = false := by
      rw [beq_eq_false_iff_ne]
      exact fun e => h (by simp [e])
    rw [Lib.indexByte, h1, ih (fun hh => h (by simp [hh]))]
    rfl

/- The forbidden places asx a map's entries. -/
def keyP (a b : Int) : Value := .agg #[.int .i64 a, .int .i64 b]
theorem keyP_inj {a b c d : Int} (h : keyP a b = keyP c d) : a = c ∧ b = d := by
  simp only [keyP, Value.agg.injEq, Array.mk.injEq, List.cons.injEq, Value.int.injEq, true_and, and_true] at h
  exact h
def entP (p : Nat × Nat) (born : Nat) : MapEntry := { key := keyP p.1 p.2, val := .bool true, born }
def mkEsL : Nat → List (Nat × Nat) → List MapEntry
  | _, [] => []
  | c, p :: l => entP p c :: mkEsL (c + 1) l
def mkEs (l : List (Nat × Nat)) : Array MapEntry := (mkEsL 0 l).toArray
theorem mkEsL_snoc (l : List (Nat × Nat)) (p : Nat × Nat) : ∀ c, mkEsL c (l ++ [p]) = mkEsL c l ++ [entP p (c + l.length)] := by
  induction l with
  | nil => intro c; simp [mkEsL]
  | cons a l ih => intro c; rw [List.cons_append, mkEsL, mkEsL, ih, List.length_cons, show c + 1 + l.length = c + (l.length + 1) by omega]; rfl
theorem mkEs_push (l : List (Nat × Nat)) (p : Nat × Nat) : (mkEs l).push { key := keyP p.1 p.2, val := .bool true, born := l.length } = mkEs (l ++ [p]) := by
  unfold mkEs
  rw [mkEsL_snoc, Nat.zero_add]
  simp [entP]
theorem mem_mkEsL {l : List (Nat × Nat)} {e : MapEntry} : ∀ {c}, e ∈ mkEsL c l → ∃ p ∈ l, e.key = keyP p.1 p.2 ∧ e.val = .bool true := by
  induction l with
  | nil => intro c h; simp [mkEsL] at h
  | cons a l ih =>
    intro c h
    simp only [mkEsL, List.mem_cons] at h
    rcases h with rfl | h
    · exact ⟨a, by simp, rfl, rfl⟩
    · obtain ⟨p, h1, h2⟩ := ih h
      exact ⟨p, by simp [h1], h2⟩
theorem mem_mkEs {l : List (Nat × Nat)} {e : MapEntry} (h : e ∈ (mkEs l).toList) : ∃ p ∈ l, e.key = keyP p.1 p.2 ∧ e.val = .bool true := mem_mkEsL (c := 0) (by simpa [mkEs] using h)
/-- The forbidden places of the first rows, and of a row's beginning. -/
def rowP (fb : Nat → Nat → Bool) (i k : Nat) : List (Nat × Nat) := ((List.range k).filter fun j => fb i j).map fun j => (i, j)
def posP (fb : Nat → Nat → Bool) (n : Nat) : Nat → List (Nat × Nat)
  | 0 => []
  | k + 1 => posP fb n k ++ rowP fb k n
theorem rowP_snoc (fb : Nat → Nat → Bool) (i k : Nat) : rowP fb i (k + 1) = rowP fb i k ++ (if fb i k then [(i, k)] else []) := by
  simp only [rowP, List.range_succ, List.filter_append, List.map_append, List.filter_cons, List.filter_nil]
  split <;> simp
theorem mem_rowP {fb : Nat → Nat → Bool} {i k : Nat} {p : Nat × Nat} : p ∈ rowP fb i k ↔ p.1 = i ∧ p.2 < k ∧ fb i p.2 = true := by
  simp only [rowP, List.mem_map, List.mem_filter, List.mem_range]
  constructor
  · rintro ⟨j, ⟨h1, h2⟩, rfl⟩; exact ⟨rfl, h1, h2⟩
  · rintro ⟨h1, h2, h3⟩; exact ⟨p.2, ⟨h2, h3⟩, by rw [← h1]⟩
theorem mem_posP {fb : Nat → Nat → Bool} {n : Nat} {p : Nat × Nat} : ∀ {k}, p ∈ posP fb n k ↔ p.1 < k ∧ p.2 < n ∧ fb p.1 p.2 = true
  | 0 => by simp [posP]
  | k + 1 => by
    simp only [posP, List.mem_append, mem_posP (k := k), mem_rowP]
    constructor
    · rintro (⟨h1, h2, h3⟩ | ⟨h1, h2, h3⟩)
      · exact ⟨by omega, h2, h3⟩
      · exact ⟨by omega, h2, by rw [h1]; exact h3⟩
    · rintro ⟨h1, h2, h3⟩
      by_cases h : p.1 = k
      · exact .inr ⟨h, h2, by rw [← h]; exact h3⟩
      · exact .inl ⟨by omega, h2, h3⟩
end Go.Am
namespace Go.Proofs.YtmmcldbldbpikaaGreatDoor
variable [Go.Am.CodeBlk]
open Go.Am
attribute [local irreducible] AW Outs Weak Lends Lend Sp aops atree aop1 Then Round InBlock Done
theorem indexByte_spec (B : List UInt8) : Sp Tryz.prog 102 [str B, .v (.int .u8 47)] (.i (Lib.indexByte B 47)) := by
  refine spec_of Tryz.func102 rfl cc102 rfl ?_
  unfold ac102
  repeat (first | (refine step_ops ?_; (refine m_mov (by conv => lhs; whnf) ?_)) | refine end_ops ?_ | refine seq_ops ?_)
  refine step_ops ?_
  refine m_xcall (vs := [.string ⟨B.toArray⟩, .int .u8 47]) (e := Extern.BytealgIndexByte.indexByte) Tryz.func106 (by kernel_rfl) (by kernel_rfl) (by kernel_rfl) (by kernel_rfl) rfl (fun w => Lib.run_indexByteString _ _ _) ?_
  repeat (first | (refine step_ops ?_; (refine m_mov (by conv => lhs; whnf) ?_)) | refine end_ops ?_ | refine AW_ret ?_ | refine ret_done ?_)
  exact outs_i rfl
theorem index_spec (B : List UInt8) (hB : B.length ≤ 1048576) : Sp Tryz.prog 100 [str B, str [47]] (.i (Lib.indexByte B 47)) := by
  refine spec_of Tryz.func100 rfl cc100 rfl ?_
  unfold ac100
  by_cases h : ([47] : List UInt8) = B
  · subst h
    repeat (first | (refine step_ops ?_; ((try (refine g_yes rfl ?_ ?_; (· first | rfl | assumption | (refine decide_eq_true ?_; first | assumption | omega) | (refine nt ?_; first | assumption | omega) | (simp [*]; done) | (refine decide_eq_false ?_; first | assumption | omega) | (refine nf ?_; first | assumption | omega)))); (first | (refine m_mov (by conv => lhs; whnf) ?_) | (refine m_eql rfl rfl ?_) | (refine m_eqs rfl rfl ?_) | (refine m_slen rfl ?_) | (refine m_pick_f rfl ?_ (by conv => lhs; whnf) ?_; (· first | rfl | assumption | (refine decide_eq_false ?_; first | assumption | omega) | (refine nf ?_; first | assumption | omega) | (simp [*]; done)))))) | refine end_ops ?_ | refine seq_ops ?_ | (refine cond_t rfl ?_ ?_; (· first | rfl | assumption | (refine decide_eq_true ?_; first | assumption | omega) | (refine nt ?_; first | assumption | omega) | (simp [*]; done))) | refine AW_seq ?_ | refine AW_ret ?_ | refine ret_done ?_ | refine ret_then ?_ | refine AW_block ?_ | refine ret_block ?_)
    exact outs_i rfl
  · repeat (first | (refine step_ops ?_; ((try (refine g_yes rfl ?_ ?_; (· first | rfl | assumption | (refine decide_eq_true ?_; first | assumption | omega) | (refine nt ?_; first | assumption | omega) | (simp [*]; done) | (refine decide_eq_false ?_; first | assumption | omega) | (refine nf ?_; first | assumption | omega)))); (first | (refine m_mov (by conv => lhs; whnf) ?_) | (refine m_eql rfl rfl ?_) | (refine m_eqs rfl rfl ?_) | (refine m_slen rfl ?_) | (refine m_pick_f rfl ?_ (by conv => lhs; whnf) ?_; (· first | rfl | assumption | (refine decide_eq_false ?_; first | assumption | omega) | (refine nf ?_; first | assumption | omega) | (simp [*]; done)))))) | refine end_ops ?_ | refine seq_ops ?_ | (refine cond_t rfl ?_ ?_; (· first | rfl | assumption | (refine decide_eq_true ?_; first | assumption | omega) | (refine nt ?_; first | assumption | omega) | (simp [*]; done))) | (refine cond_f rfl ?_ ?_; (· first | rfl | assumption | (refine decide_eq_false ?_; first | assumption | omega) | (refine nf ?_; first | assumption | omega) | (simp [*]; done))) | refine AW_seq ?_ | refine AW_block ?_)
    refine step_ops ?_
    refine m_six' (j := 0) rfl rfl (by decide) ?_
    refine step_ops ?_
    refine m_call (indexByte_spec B) ?_ ?_
    · exact lends_cons lend_v (lends_cons lend_v lends_nil)
    repeat (first | (refine step_ops ?_; (refine m_mov (by conv => lhs; whnf) ?_)) | refine end_ops ?_ | refine AW_ret ?_ | refine ret_done ?_ | refine ret_then ?_ | refine ret_block ?_)
    exact outs_i rfl
theorem stringsIndex_spec (B : List UInt8) (hB : B.length ≤ 1048576) : Sp Tryz.prog 94 [str B, str [47]] (.i (Lib.indexByte B 47)) := by
  refine spec_of Tryz.func94 rfl cc94 rfl ?_
  unfold ac94
  repeat (first | (refine step_ops ?_; (refine m_mov (by conv => lhs; whnf) ?_)) | refine end_ops ?_ | refine seq_ops ?_)
  (refine step_ops ?_); (apply m_call (index_spec B hB)); (· repeat (first | exact lends_nil | (refine lends_cons ?_ ?_; (· exact lend_v))))
  repeat (first | (refine step_ops ?_; (refine m_mov (by conv => lhs; whnf) ?_)) | refine end_ops ?_ | refine AW_ret ?_ | refine ret_done ?_)
  exact outs_i rfl
/-- Texts asx values. -/
def strs (l : List (List UInt8)) : List AV := l.map fun r => str r
theorem strs_len (l : List (List UInt8)) : (strs l).length = l.length := by simp [strs]
theorem strs_plain (l : List (List UInt8)) : (strs l).all plainV = true := by simp [strs, plainV]
/-- What a cut has made so far: the pieces, and nothing behind them. -/
def cutC (done : List (List UInt8)) (m : Nat) : List AV := strs done ++ List.replicate (m - done.length) (str [])
theorem cutC_len (done : List (List UInt8)) (m : Nat) (h : done.length ≤ m) : (cutC done m).length = m := by
  simp [cutC, strs_len]; omega
theorem cutC_set (done : List (List UInt8)) (p : List UInt8) (m : Nat) (h : done.length < m) : (cutC done m).set done.length (str p) = cutC (done ++ [p]) m := by
  obtain ⟨j, hj⟩ : ∃ j, m - done.length = j + 1 := ⟨m - done.length - 1, by omega⟩
  have hj2 : m - (done ++ [p]).length = j := by simp; omega
  unfold cutC
  rw [hj, hj2, List.set_append_right _ _ (by simp [strs_len]), strs_len, Nat.sub_self, List.replicate_succ, List.set_cons_zero]
  simp [strs]
theorem flat_ones {α : Type} (x : α) : ∀ n, (List.replicate n [x]).flatten = List.replicate n x
  | 0 => rfl
  | n + 1 => by rw [List.replicate_succ, List.flatten_cons, flat_ones x n]; rfl
theorem cutC_take (done : List (List UInt8)) (m : Nat) : (cutC done m).take done.length = strs done := by
  unfold cutC
  rw [List.take_append_of_le_length (by simp [strs_len]), List.take_of_length_le (by simp [strs_len])]
theorem splitNB_min (B : List UInt8) : splitNB (min 8 B.length) B = splitNB 8 B := by
  rcases Nat.le_total 8 B.length with h | h
  · rw [Nat.min_eq_left h]
  · have hc : B.count 47 ≤ B.length := List.count_le_length
    rw [Nat.min_eq_right h, splitNB_all _ _ hc, splitNB_all _ _ (by omega)]
theorem genSplit_spec (B : List UInt8) (hB : B.length ≤ 1048576) : Sp Tryz.prog 88 [str B, str [47], .i 0, .i 9] (.ro true 1 (strs (splitNB 8 B)) (splitNB 8 B).length) := by
  obtain ⟨m, hm⟩ : ∃ m, m = min 8 B.length := ⟨_, rfl⟩
  have hmi : (if ((B.length : Int)) + 1 < 9 then ((B.length : Int)) + 1 else 9) = ((m + 1 : Nat) : Int) := by split <;> omega
  have hr0 : splitNB m B = splitNB 8 B := by rw [hm]; exact splitNB_min B
  rw [← hr0]
  refine spec_of Tryz.func88 rfl cc88 rfl ?_
  unfold ac88
  repeat (first | (refine step_ops ?_; (first | (refine m_mov (by conv => lhs; whnf) ?_) | (refine m_lss rfl rfl ?_) | (refine m_eql rfl rfl ?_) | (refine m_eqs rfl rfl ?_) | (refine m_add rfl rfl ?_ ?_ ?_; (· omega); (· omega)) | (refine m_slen rfl ?_) | (refine m_nils ?_) | (refine m_min rfl rfl ?_))) | refine end_ops ?_ | refine seq_ops ?_ | (refine cond_f rfl ?_ ?_; (· first | rfl | assumption | (refine decide_eq_false ?_; first | assumption | omega) | (refine nf ?_; first | assumption | omega) | (simp [*]; done))) | refine skip_then ?_ | refine AW_seq ?_)
  rw [hmi]
  refine step_ops ?_
  refine m_mk (n := m + 1) rfl rfl (by omega) (by omega) ?_
  repeat (first | (refine step_ops ?_; (first | (refine m_mov (by conv => lhs; whnf) ?_) | (refine m_sub rfl rfl ?_ ?_ ?_; (· omega); (· omega)))) | refine end_ops ?_ | refine seq_ops ?_ | refine AW_seq ?_ | refine AW_block ?_)
  rw [show ((m + 1 : Nat) : Int) - 1 = (m : Int) by omega]
  skip
  refine AW_loop (α := List (List UInt8) × List UInt8) (fun a => a.1.length ≤ m ∧ a.2.length + a.1.length ≤ B.length ∧ a.1 ++ splitNB (m - a.1.length) a.2 = splitNB m B)
    (fun a => st [(0, str a.2), (1, str [47]), (2, .i 0), (3, .i m), (9, .sl 31 1 0 (m + 1)), (10, .i a.1.length)] [(31, (true, cutC a.1 (m + 1)))]) (fun a => m - a.1.length) ([], B) ⟨Nat.zero_le _, by simp, by simp⟩ (weak_st ?_ ?_ rfl rfl) ?_
  · (repeat' (first | exact trivial | refine And.intro ?_ ?_)) <;> (first | rfl | skip)
  · refine ⟨?_, trivial⟩
    show some (true, (List.replicate (m + 1) [str []]).flatten) = some (true, cutC [] (m + 1))
    rw [flat_ones]; rfl
  rintro ⟨done, rest⟩ ⟨hd, hrl, hres⟩
  dsimp only at hd hrl hres ⊢
  have hcl := cutC_len done (m + 1) (by omega)
  have h47l : ([47] : List UInt8).length = 1 := rfl
  have hcp : (cutC done (m + 1)).all plainV = true := by simp [cutC, strs, plainV]
  have hrl1 : (done ++ [rest]).length = done.length + 1 := by simp
  have hout : ∀ {s : AS}, s.hp 31 = some (true, (cutC done (m + 1)).set done.length (str rest)) → Outs s (.sl 31 1 0 (done.length + 1)) (.ro true 1 (strs (done ++ [rest])) (done ++ [rest]).length) := by
    intro s hs
    rw [cutC_set done rest (m + 1) (by omega)] at hs
    have h := outs_sl_take (z := 1) (n := done.length + 1) hs (by rw [cutC_len _ _ (by omega)]; omega) (by simp [cutC, strs, plainV])
    rw [Nat.mul_one, ← hrl1, cutC_take] at h
    rw [hrl1] at h ⊢
    exact h
  by_cases hc : done.length < m
  · by_cases h47 : (47 : UInt8) ∈ rest
    · obtain ⟨p, q, hp, rfl⟩ := cut_at h47
      have hix := indexByte_cut (q := q) hp
      have hpl : (p ++ 47 :: q).length = p.length + (q.length + 1) := by simp
      repeat (first | (refine step_ops ?_; (first | (refine m_mov (by conv => lhs; whnf) ?_) | (refine m_lss rfl rfl ?_))) | refine end_ops ?_ | refine seq_ops ?_ | (refine cond_t rfl ?_ ?_; (· first | rfl | assumption | (refine decide_eq_true ?_; first | assumption | omega) | (refine nt ?_; first | assumption | omega) | (simp [*]; done))) | refine skip_then ?_ | refine AW_seq ?_ | refine AW_block ?_)
      (refine step_ops ?_); (apply m_call (stringsIndex_spec (p ++ 47 :: q) (by omega))); (· repeat (first | exact lends_nil | (refine lends_cons ?_ ?_; (· exact lend_v))))
      rw [hix]
      repeat (first | (refine step_ops ?_; (first | (refine m_mov (by conv => lhs; whnf) ?_) | (refine m_lss rfl rfl ?_) | (refine m_add rfl rfl ?_ ?_ ?_; (· omega); (· omega)))) | refine end_ops ?_ | refine seq_ops ?_ | (refine cond_f rfl ?_ ?_; (· first | rfl | assumption | (refine decide_eq_false ?_; first | assumption | omega) | (refine nf ?_; first | assumption | omega) | (simp [*]; done))) | refine skip_then ?_ | refine AW_seq ?_)
      rw [show ((p.length : Int) + 0) = (p.length : Int) from Int.add_zero _]
      repeat (first | (refine step_ops ?_; (first | (refine m_mov (by conv => lhs; whnf) ?_) | (refine m_add rfl rfl ?_ ?_ ?_; (· omega); (· omega)) | (refine m_scutl rfl rfl ?_ ?_; (· first | omega | (simp; omega))) | (refine m_scuth rfl rfl ?_ ?_; (· first | omega | (simp; omega))) | (refine m_slen rfl ?_) | (refine m_idx1_sl rfl rfl ?_ ?_; (· omega)) | (apply m_st; (· rfl); (· rfl); (· rfl); (· first | omega | (simp; done) | (simp; omega)); (· rfl)))) | refine end_ops ?_ | refine seq_ops ?_ | refine AW_ops ?_ | refine norm_block ?_)
      rw [show ((p.length : Int) + (([47] : List UInt8).length : Int)) = ((p.length + 1 : Nat) : Int) by omega]
      skip
      have e1 : (p ++ 47 :: q).take p.length = p := by simp
      have e2 : (p ++ 47 :: q).drop (p.length + ([47] : List UInt8).length) = q := by rw [h47l, List.drop_append]; simp
      refine next_round (done ++ [p], q) ⟨by simp; omega, by simp; omega, ?_⟩ (weak_st ?_ ?_ rfl rfl) ?_
      · rw [← hres, show m - done.length = (m - (done ++ [p]).length) + 1 by simp; omega, splitNB_cut hp, List.append_assoc]
        rfl
      · rw [show (done ++ [p]).length = done.length + 1 by simp]
        rw [e1, e2]
        (repeat' (first | exact trivial | refine And.intro ?_ ?_)) <;> (first | rfl | skip)
      · refine ⟨?_, trivial⟩
        rw [← cutC_set done p (m + 1) (by omega), e1]
        rfl
      · simp; omega
    · have hix := indexByte_none h47
      have hfin : splitNB m B = done ++ [rest] := by rw [← hres, splitNB_one h47]
      repeat (first | (refine step_ops ?_; (first | (refine m_mov (by conv => lhs; whnf) ?_) | (refine m_lss rfl rfl ?_))) | refine end_ops ?_ | refine seq_ops ?_ | (refine cond_t rfl ?_ ?_; (· first | rfl | assumption | (refine decide_eq_true ?_; first | assumption | omega) | (refine nt ?_; first | assumption | omega) | (simp [*]; done))) | refine skip_then ?_ | refine AW_seq ?_ | refine AW_block ?_)
      (refine step_ops ?_); (apply m_call (stringsIndex_spec rest (by omega))); (· repeat (first | exact lends_nil | (refine lends_cons ?_ ?_; (· exact lend_v))))
      rw [hix]
      repeat (first | (refine step_ops ?_; (first | (refine m_mov (by conv => lhs; whnf) ?_) | (refine m_lss rfl rfl ?_) | (refine m_add rfl rfl ?_ ?_ ?_; (· omega); (· omega)) | (refine m_idx1_sl rfl rfl ?_ ?_; (· omega)) | (apply m_st; (· rfl); (· rfl); (· rfl); (· first | omega | (simp; done) | (simp; omega)); (· rfl)))) | refine end_ops ?_ | refine seq_ops ?_ | (refine cond_t rfl ?_ ?_; (· first | rfl | assumption | (refine decide_eq_true ?_; first | assumption | omega) | (refine nt ?_; first | assumption | omega) | (simp [*]; done))) | refine AW_seq ?_ | refine norm_then ?_ | refine exit_then ?_ | refine exit_round ?_ | refine AW_exit ?_ | refine exit_block ?_ | (refine exit_other ?_ ?_; (· decide)))
      rw [show ((done.length : Int) + 1) = ((done.length + 1 : Nat) : Int) by omega]
      skip
      refine step_ops ?_
      refine m_cut_sl (l := 0) (h := done.length + 1) rfl rfl ⟨_, rfl⟩ (Nat.zero_le _) (by omega) ?_
      repeat (first | (refine step_ops ?_; (refine m_mov (by conv => lhs; whnf) ?_)) | refine end_ops ?_ | refine AW_ret ?_ | refine ret_done ?_)
      rw [hfin]
      exact hout rfl
  · have hfin : splitNB m B = done ++ [rest] := by rw [← hres, show m - done.length = 0 by omega]; rfl
    repeat (first | (refine step_ops ?_; (first | (refine m_mov (by conv => lhs; whnf) ?_) | (refine m_lss rfl rfl ?_) | (refine m_add rfl rfl ?_ ?_ ?_; (· omega); (· omega)) | (refine m_idx1_sl rfl rfl ?_ ?_; (· omega)) | (apply m_st; (· rfl); (· rfl); (· rfl); (· first | omega | (simp; done) | (simp; omega)); (· rfl)))) | refine end_ops ?_ | refine seq_ops ?_ | (refine cond_f rfl ?_ ?_; (· first | rfl | assumption | (refine decide_eq_false ?_; first | assumption | omega) | (refine nf ?_; first | assumption | omega) | (simp [*]; done))) | refine AW_seq ?_ | refine norm_then ?_ | refine exit_then ?_ | refine exit_round ?_ | refine AW_exit ?_ | refine exit_block ?_)
    rw [show ((done.length : Int) + 1) = ((done.length + 1 : Nat) : Int) by omega]
    skip
    refine step_ops ?_
    refine m_cut_sl (l := 0) (h := done.length + 1) rfl rfl ⟨_, rfl⟩ (Nat.zero_le _) (by omega) ?_
    repeat (first | (refine step_ops ?_; (refine m_mov (by conv => lhs; whnf) ?_)) | refine end_ops ?_ | refine AW_ret ?_ | refine ret_done ?_)
    rw [hfin]
    exact hout rfl
theorem splitN_spec (B : List UInt8) (hB : B.length ≤ 1048576) : Sp Tryz.prog 86 [str B, str [47], .i 9] (.ro true 1 (strs (splitNB 8 B)) (splitNB 8 B).length) := by
  refine spec_of Tryz.func86 rfl cc86 rfl ?_
  unfold ac86
  repeat (first | (refine step_ops ?_; (first | (refine m_mov (by conv => lhs; whnf) ?_) | (refine m_nils ?_))) | refine end_ops ?_ | refine seq_ops ?_)
  refine step_ops ?_
  refine m_callo (genSplit_spec B hB) ?_ (strs_plain _) ?_
  · exact lends_cons lend_v (lends_cons lend_v (lends_cons lend_v (lends_cons lend_v lends_nil)))
  repeat (first | (refine step_ops ?_; (refine m_mov (by conv => lhs; whnf) ?_)) | refine end_ops ?_ | refine AW_ret ?_ | refine ret_done ?_)
  exact outs_sl rfl (by rw [strs_len, Nat.mul_one]) (strs_plain _)
end Go.Proofs.YtmmcldbldbpikaaGreatDoor
namespace Go.Proofs.YtmmcldbldbpikaaGreatDoor
variable [Go.Am.CodeBlk]
open Go.Am
attribute [local irreducible] AW Outs Weak Lends Lend Sp aops atree aop1 Then Round InBlock Done
theorem u8_eq {c : UInt8} {n : Nat} (h : c.toNat = n) (k : UInt8) (hk : k.toNat = n) : c = k := UInt8.toNat_inj.1 (h.trans hk.symm)
end Go.Proofs.YtmmcldbldbpikaaGreatDoor
namespace Go.Proofs.YtmmcldbldbpikaaGreatDoor
variable [Go.Am.CodeBlk]
open Go.Am
attribute [local irreducible] AW Outs Weak Lends Lend Sp aops atree aop1 Then Round InBlock Done
theorem strs_at {l : List (List UInt8)} {k : Nat} (h : k < l.length) : ((strs l).drop k)[0]? = some (str (l.getD k [])) := by
  simp [strs, h]
/-- A row that is one of n signs. -/
def OkRow (n : Nat) (r : List UInt8) : Prop := r.length = n ∧ ∀ c ∈ r, c = 46 ∨ c = 35
theorem good_iff {B : List UInt8} (h : B.count 47 ≤ 7) : GoodBd B ↔ ∀ i < sdB B, OkRow (sdB B) ((splitB B).getD i []) := by
  have hl := splitB_len B
  constructor
  · intro hg i hi
    exact hg.2 _ (getD_memL (by rw [hl]; exact hi))
  · intro hg
    refine ⟨h, fun r hr => ?_⟩
    obtain ⟨i, hi, rfl⟩ := List.getElem_of_mem hr
    have := hg i (by rw [hl] at hi; exact hi)
    rw [getD_get hi] at this
    exact this
theorem all_snoc {n : Nat} {rows : List (List UInt8)} {k : Nat} (h : ∀ i < k, OkRow n (rows.getD i [])) (hk : OkRow n (rows.getD k [])) : ∀ i < k + 1, OkRow n (rows.getD i []) := by
  intro i hi
  by_cases e : i = k
  · subst e; exact hk
  · exact h i (by omega)
end Go.Proofs.YtmmcldbldbpikaaGreatDoor
namespace Go.Proofs.YtmmcldbldbpikaaGreatDoor
variable [Go.Am.CodeBlk]
open Go.Am Go.WideMaps
theorem place_law : KeyLaw Tryz.prog 79 := deep_law (m := 2) (by omega) (by kernel_rfl) (by kernel_rfl) (by kernel_rfl)
theorem place_type : Tryz.prog.keyType 79 = true := by kernel_rfl
theorem place_cells : Tryz.prog.cellsOf 79 = 2 := by kernel_rfl
theorem types_size : ∃ m, Tryz.prog.types.size = m + 1 := ⟨Tryz.prog.types.size - 1, by kernel_rfl⟩
theorem int_under : Tryz.prog.underlying 3 = some (.int .i64) := by kernel_rfl
theorem int_cells : Tryz.prog.cellsOf 3 = 1 := by kernel_rfl
theorem lits_int {a : Int} (ha : (Lit.int .i64 a).wf = true) (m : Nat) : Tryz.prog.keyLits (m + 1) 3 [.int .i64 a] = some [.int .i64 a] := by
  unfold Program.keyLits
  simp [int_under, ha]
theorem key_place {a b : Int} (ha : (Lit.int .i64 a).wf = true) (hb : (Lit.int .i64 b).wf = true) : ∃ l, keyOf Tryz.prog 79 (keyP a b) = some l := by
  obtain ⟨m, hm⟩ := types_size
  unfold keyOf keyP
  rw [Tryz.underlying79]
  simp only [place_type, Bool.true_and]
  rw [if_pos (by simp [Value.formed, Tryz.underlying79, place_cells]), hm]
  unfold Program.keyLits
  simp [Tryz.underlying79, Value.cells, place_cells, int_cells, lits_int ha, lits_int hb]
theorem wf_int {a : Int} (h1 : -9223372036854775808 ≤ a) (h2 : a ≤ 9223372036854775807) : (Lit.int .i64 a).wf = true := by
  simp [Lit.wf, IntKind.min, IntKind.max, IntKind.signed, IntKind.bits, h1, h2]
theorem keys_place {l : List (Nat × Nat)} (h : ∀ p ∈ l, p.1 < 1000 ∧ p.2 < 1000) : ∀ e ∈ (mkEs l).toList, ∃ q, keyOf Tryz.prog 79 e.key = some q := by
  intro e he
  obtain ⟨p, hp, hk, _⟩ := mem_mkEs he
  have := h p hp
  rw [hk]
  exact key_place (wf_int (by omega) (by omega)) (wf_int (by omega) (by omega))
/-- A place that is not in a map is put into it. -/
theorem m_putPlace {own : Bool} {s : AS} {K : AS → Prop} {x i y : Opd} {r : Nat} {l : List (Nat × Nat)} {a b : Nat} (h : ∀ p ∈ l, p.1 < 1000 ∧ p.2 < 1000) (hx : s.ev x = .mp r) (hr : s.hp r = some (true, [.ob (.map (mkEs l) l.length)])) (hi : exV (s.ev i) = some (keyP a b)) (hy : s.ev y = .v (.bool true))
    (ha : a < 1000) (hb : b < 1000) (hn : (a, b) ∉ l) (k : K (s.mem r (true, [.ob (.map (mkEs (l ++ [(a, b)])) (l ++ [(a, b)]).length)]))) : aop1 Tryz.prog own ⟨none, .mputk 79 x i y, none⟩ s K := by
  refine m_mputk place_law hx hr hi hy (key_place (wf_int (by omega) (by omega)) (wf_int (by omega) (by omega))) (keys_place h) ?_ ?_
  · intro e he hk
    obtain ⟨p, hp, h1, _⟩ := mem_mkEs he
    rw [h1] at hk
    obtain ⟨e1, e2⟩ := keyP_inj hk
    have : p = (a, b) := Prod.ext (by omega) (by omega)
    exact hn (this ▸ hp)
  · rw [show l.length + 1 = (l ++ [(a, b)]).length by simp]
    rw [← mkEs_push l (a, b)] at k
    exact k
end Go.Proofs.YtmmcldbldbpikaaGreatDoor
namespace Go.Proofs.YtmmcldbldbpikaaGreatDoor
variable [Go.Am.CodeBlk]
open Go.Am
attribute [local irreducible] AW Outs Weak Lends Lend Sp aops atree aop1 Then Round InBlock Done
theorem isSide_spec (n : Int) : Sp Tryz.prog 79 [.i n] (.b (decide (1 ≤ n ∧ n ≤ 8))) := by
  refine spec_of Tryz.func79 rfl cc79 rfl ?_
  unfold ac79
  by_cases h1 : 1 ≤ n
  · by_cases h2 : n ≤ 8
    · repeat (first | (refine step_ops ?_; ((try (refine g_yes rfl ?_ ?_; (· first | rfl | assumption | (refine decide_eq_true ?_; first | assumption | omega) | (refine nt ?_; first | assumption | omega) | (simp [*]; done) | (refine decide_eq_false ?_; first | assumption | omega) | (refine nf ?_; first | assumption | omega)))); (first | (refine m_mov (by conv => lhs; whnf) ?_) | (refine m_leq rfl rfl ?_) | (refine m_geq rfl rfl ?_) | (refine m_pick_t rfl ?_ (by conv => lhs; whnf) ?_; (· first | rfl | assumption | (refine decide_eq_true ?_; first | assumption | omega) | (refine nt ?_; first | assumption | omega) | (simp [*]; done)))))) | refine end_ops ?_ | refine seq_ops ?_ | refine AW_ret ?_ | refine ret_done ?_)
      exact outs_b (by simp [h1, h2])
    · repeat (first | (refine step_ops ?_; ((try (refine g_yes rfl ?_ ?_; (· first | rfl | assumption | (refine decide_eq_true ?_; first | assumption | omega) | (refine nt ?_; first | assumption | omega) | (simp [*]; done) | (refine decide_eq_false ?_; first | assumption | omega) | (refine nf ?_; first | assumption | omega)))); (first | (refine m_mov (by conv => lhs; whnf) ?_) | (refine m_leq rfl rfl ?_) | (refine m_geq rfl rfl ?_) | (refine m_pick_t rfl ?_ (by conv => lhs; whnf) ?_; (· first | rfl | assumption | (refine decide_eq_true ?_; first | assumption | omega) | (refine nt ?_; first | assumption | omega) | (simp [*]; done)))))) | refine end_ops ?_ | refine seq_ops ?_ | refine AW_ret ?_ | refine ret_done ?_)
      exact outs_b (by simp [h2])
  · repeat (first | (refine step_ops ?_; (first | (first | (refine m_mov (by conv => lhs; whnf) ?_) | (refine m_geq rfl rfl ?_) | (refine m_pick_f rfl ?_ (by conv => lhs; whnf) ?_; (· first | rfl | assumption | (refine decide_eq_false ?_; first | assumption | omega) | (refine nf ?_; first | assumption | omega) | (simp [*]; done)))) | (refine g_noT rfl ?_ ?_; (· first | rfl | assumption | (refine decide_eq_false ?_; first | assumption | omega) | (refine nf ?_; first | assumption | omega) | (simp [*]; done))))) | refine end_ops ?_ | refine seq_ops ?_ | refine AW_ret ?_ | refine ret_done ?_)
    exact outs_b (by simp [h1])
/-- The places of a board. -/
def plB (B : List UInt8) : List (Nat × Nat) := posP (fbB B) (sdB B) (sdB B)
/-- A board that was read. -/
def bdV (fr : Bool) (B : List UInt8) : AV := if GoodBd B then .agg [.i (sdB B : Nat), .rmp fr (mkEs (plB B)) (plB B).length] else .agg [.i 0, .v (.map none)]
def bdR (fr : Bool) (B : List UInt8) : AV := .tup [bdV fr B, .b (decide (GoodBd B))]
theorem pos_lt {fb : Nat → Nat → Bool} {n k i j : Nat} (hn : n ≤ 8) (hk : k ≤ n) (hi : i < 8) (hj : j ≤ n) : ∀ p ∈ posP fb n k ++ rowP fb i j, p.1 < 1000 ∧ p.2 < 1000 := by
  intro p hp
  rcases List.mem_append.1 hp with hp | hp
  · have := mem_posP.1 hp; omega
  · have := mem_rowP.1 hp; omega
set_option maxRecDepth 20000 in
theorem readBoard_spec (B : List UInt8) (hB : B.length ≤ 1048576) : Sp Tryz.prog 82 [str B] (bdR true B) := by
  have hl := splitB_len B
  have hnl := splitNB_len 8 B
  refine specG_of Tryz.func82 rfl cc82 (by set_option maxRecDepth 100000 in rfl) ?_
  unfold ac82
  by_cases hc7 : B.count 47 ≤ 7
  · have hsp : splitNB 8 B = splitB B := splitNB_all 8 B (by omega)
    have hspec := splitN_spec B hB
    rw [hsp] at hspec
    have hsd : sdB B = (splitB B).length := hl.symm
    have hsd8 : sdB B ≤ 8 := by unfold sdB; omega
    repeat (first | (refine step_ops ?_; (first | (refine m_mov (by conv => lhs; whnf) ?_) | (refine m_alloc ?_))) | refine end_ops ?_ | refine seq_ops ?_)
    (refine step_ops ?_); (apply m_call (hspec)); (· repeat (first | exact lends_nil | (refine lends_cons ?_ ?_; (· exact lend_v))))
    repeat (first | (refine step_ops ?_; (first | (refine m_mov (by conv => lhs; whnf) ?_) | (refine m_len_ro rfl ?_))) | refine end_ops ?_ | refine seq_ops ?_ | refine AW_seq ?_)
    (refine step_ops ?_); (apply m_call (isSide_spec _)); (· repeat (first | exact lends_nil | (refine lends_cons ?_ ?_; (· exact lend_v))))
    repeat (first | (refine step_ops ?_; (first | (refine m_mov (by conv => lhs; whnf) ?_) | (refine m_not rfl ?_) | (refine m_len_ro rfl ?_) | (refine m_mmk ?_) | (refine m_alloc ?_) | (refine m_bld_2 (by conv => lhs; whnf) (by conv => lhs; whnf) (by decide)  (by decide) (by rfl) (by rfl) ?_))) | refine end_ops ?_ | refine seq_ops ?_ | (refine cond_f rfl ?_ ?_; (· first | rfl | assumption | (refine decide_eq_false ?_; first | assumption | omega) | (refine nf ?_; first | assumption | omega) | (simp [*]; done))) | refine skip_then ?_)
    refine step_opsW (weak_deep (r := 5) rfl (by simp) rfl) ?_
    refine m_stall (l := [.i (splitB B).length, .mp 18]) rfl rfl rfl rfl rfl rfl ?_
    repeat (first | (refine step_ops ?_; (first | (refine m_mov (by conv => lhs; whnf) ?_) | (refine m_len_ro rfl ?_))) | refine end_ops ?_ | refine seq_ops ?_ | refine AW_seq ?_ | refine AW_block ?_)
    refine AW_loop (α := Nat) (fun k => k ≤ sdB B ∧ ∀ i < k, OkRow (sdB B) ((splitB B).getD i []))
      (fun k => st [(2, .pt 2 0), (5, .pt 5 0), (20, .ro true 1 (strs (splitB B)) (splitB B).length), (21, .i (splitB B).length), (22, .i k)]
        [(2, (true, [.i 0, .v (.map none)])), (5, (false, [.i (splitB B).length, .mp 18])), (18, (true, [.ob (.map (mkEs (posP (fbB B) (sdB B) k)) (posP (fbB B) (sdB B) k).length)]))]) (fun k => sdB B - k) 0 ⟨Nat.zero_le _, fun i hi => by omega⟩ (weak_st ?_ ?_ rfl rfl) ?_
    · (repeat' (first | exact trivial | refine And.intro ?_ ?_)) <;> (first | rfl | skip)
    · (repeat' (first | exact trivial | refine And.intro ?_ ?_)) <;> (first | rfl | skip)
    rintro k ⟨hk, hok⟩
    by_cases hc : k < (splitB B).length
    · have hat := strs_at hc
      obtain ⟨row, hrow⟩ : ∃ row, row = (splitB B).getD k [] := ⟨_, rfl⟩
      rw [← hrow] at hat
      have hsn : OkRow (sdB B) row → ∀ i < k + 1, OkRow (sdB B) ((splitB B).getD i []) := fun h => all_snoc hok (by rw [← hrow]; exact h)
      have hbad : ¬ OkRow (sdB B) row → ¬ GoodBd B := fun h hg => h (by rw [hrow]; exact (good_iff hc7).1 hg k (by omega))
      have hfb : ∀ j, fbB B k j = decide (row.getD j 0 = 35) := fun j => by rw [hrow]; rfl
      have hout : ∀ {s : AS}, ¬ GoodBd B → s.tm 2 = .pt 2 0 → s.hp 2 = some (true, [.i 0, .v (.map none)]) → s.tm 3 = .b false → DoneG [.c 2 2, .t 3] (bdR true B) .ret s := by
        intro s hng h1 h2 h3
        refine ret_doneg2 h1 h2 rfl ?_
        unfold bdR bdV
        rw [h3, if_neg hng, decide_eq_false hng]
        exact outs_tup2 (outs_agg rfl) (outs_b rfl)
      by_cases hlen : row.length = (splitB B).length
      · repeat (first | (refine step_ops ?_; (first | (refine m_mov (by conv => lhs; whnf) ?_) | (refine m_lss rfl rfl ?_) | (refine m_idx1_ro rfl rfl ?_ ?_; (· omega)))) | refine end_ops ?_ | refine seq_ops ?_ | (refine cond_t rfl ?_ ?_; (· first | rfl | assumption | (refine decide_eq_true ?_; first | assumption | omega) | (refine nt ?_; first | assumption | omega) | (simp [*]; done))) | refine skip_then ?_ | refine AW_seq ?_ | refine AW_block ?_)
        refine step_ops ?_
        refine m_ld_rp rfl hat ?_
        repeat (first | (refine step_ops ?_; (first | (refine m_mov (by conv => lhs; whnf) ?_) | (refine m_neq rfl rfl ?_) | (refine m_slen rfl ?_) | (apply m_ld_pt; (· rfl); (· rfl); (· rfl)) | (refine m_fa rfl ?_))) | refine end_ops ?_ | refine seq_ops ?_ | (refine cond_f rfl ?_ ?_; (· first | rfl | assumption | (refine decide_eq_false ?_; first | assumption | omega) | (refine nf ?_; first | assumption | omega) | (simp [*]; done))) | refine skip_then ?_ | refine AW_seq ?_ | refine AW_block ?_)
        refine AW_loop (α := Nat) (fun j => j ≤ row.length ∧ ∀ c ∈ row.take j, c = 46 ∨ c = 35)
          (fun j => st [(2, .pt 2 0), (5, .pt 5 0), (6, .i k), (7, str row), (20, .ro true 1 (strs (splitB B)) (splitB B).length), (21, .i (splitB B).length), (22, .i k), (34, .i row.length), (35, .i j)]
            [(2, (true, [.i 0, .v (.map none)])), (5, (false, [.i (splitB B).length, .mp 18])), (18, (true, [.ob (.map (mkEs (posP (fbB B) (sdB B) k ++ rowP (fbB B) k j)) (posP (fbB B) (sdB B) k ++ rowP (fbB B) k j).length)]))]) (fun j => row.length - j) 0 ⟨Nat.zero_le _, fun c hc => by simp at hc⟩ (weak_st ?_ ?_ rfl rfl) ?_
        · (repeat' (first | exact trivial | refine And.intro ?_ ?_)) <;> (first | rfl | skip)
        · rw [show posP (fbB B) (sdB B) k ++ rowP (fbB B) k 0 = posP (fbB B) (sdB B) k by simp [rowP]]
          (repeat' (first | exact trivial | refine And.intro ?_ ?_)) <;> (first | rfl | skip)
        rintro j ⟨hj, hjok⟩
        by_cases hcj : j < row.length
        · have hts := take_snoc row j 0 hcj
          have hrs := rowP_snoc (fbB B) k j
          have hlt := pos_lt (fb := fbB B) (n := sdB B) (k := k) (i := k) (j := j) hsd8 (by omega) (by omega) (by omega)
          by_cases h46 : row.getD j 0 = 46
          · have h46' : ((row.getD j 0).toNat : Int) = 46 := by rw [h46]; rfl
            have hfj : fbB B k j = false := by rw [hfb, h46]; rfl
            rw [hfj] at hrs
            repeat (first | (refine step_ops ?_; (first | (refine m_mov (by conv => lhs; whnf) ?_) | (refine m_lss rfl rfl ?_) | (refine m_eqk rfl rfl ?_) | (refine m_add rfl rfl ?_ ?_ ?_; (· omega); (· omega)) | (refine m_six' rfl rfl ?_ ?_; (· first | omega | (simp; omega))))) | refine end_ops ?_ | refine seq_ops ?_ | refine AW_ops ?_ | (refine cond_t rfl ?_ ?_; (· first | rfl | assumption | (refine decide_eq_true ?_; first | assumption | omega) | (refine nt ?_; first | assumption | omega) | (simp [*]; done))) | refine skip_then ?_ | refine AW_seq ?_ | refine norm_then ?_ | refine AW_block ?_ | refine norm_block ?_ | refine AW_skip ?_)
            refine next_round (j + 1) ⟨hcj, fun c hc => ?_⟩ (weak_st ?_ ?_ rfl rfl) ?_
            · rw [hts] at hc
              rcases List.mem_append.1 hc with hc | hc
              · exact hjok c hc
              · rw [List.mem_singleton.1 hc]; exact .inl h46
            · (repeat' (first | exact trivial | refine And.intro ?_ ?_)) <;> (first | rfl | skip)
            · rw [hrs]
              simp only [Bool.false_eq_true, if_false, List.append_nil]
              (repeat' (first | exact trivial | refine And.intro ?_ ?_)) <;> (first | rfl | skip)
            · omega
          · have h46' : ¬ ((row.getD j 0).toNat : Int) = 46 := fun e => h46 (u8_eq (n := 46) (by omega) 46 rfl)
            by_cases h35 : row.getD j 0 = 35
            · have h35' : ((row.getD j 0).toNat : Int) = 35 := by rw [h35]; rfl
              have hfj : fbB B k j = true := by rw [hfb, h35]; rfl
              rw [hfj, if_pos rfl] at hrs
              repeat (first | (refine step_ops ?_; (first | (refine m_mov (by conv => lhs; whnf) ?_) | (refine m_lss rfl rfl ?_) | (refine m_eqk rfl rfl ?_) | (refine m_six' rfl rfl ?_ ?_; (· first | omega | (simp; omega))) | (apply m_ld_pt; (· rfl); (· rfl); (· rfl)) | (refine m_fa rfl ?_) | (refine m_bld_2 (by conv => lhs; whnf) (by conv => lhs; whnf) (by decide)  (by decide) (by rfl) (by rfl) ?_))) | refine end_ops ?_ | refine seq_ops ?_ | refine AW_ops ?_ | (refine cond_t rfl ?_ ?_; (· first | rfl | assumption | (refine decide_eq_true ?_; first | assumption | omega) | (refine nt ?_; first | assumption | omega) | (simp [*]; done))) | (refine cond_f rfl ?_ ?_; (· first | rfl | assumption | (refine decide_eq_false ?_; first | assumption | omega) | (refine nf ?_; first | assumption | omega) | (simp [*]; done))) | refine skip_then ?_ | refine AW_seq ?_ | refine AW_block ?_)
              refine step_ops ?_
              refine m_putPlace (l := posP (fbB B) (sdB B) k ++ rowP (fbB B) k j) (a := k) (b := j) hlt rfl rfl rfl rfl (by omega) (by omega) ?_ ?_
              · intro hm
                rcases List.mem_append.1 hm with hm | hm
                · have := mem_posP.1 hm; simp at this
                · have := mem_rowP.1 hm; simp at this
              repeat (first | (refine step_ops ?_; (first | (refine m_mov (by conv => lhs; whnf) ?_) | (refine m_add rfl rfl ?_ ?_ ?_; (· omega); (· omega)))) | refine end_ops ?_ | refine AW_ops ?_ | refine norm_then ?_ | refine norm_block ?_)
              refine next_round (j + 1) ⟨hcj, fun c hc => ?_⟩ (weak_st ?_ ?_ rfl rfl) ?_
              · rw [hts] at hc
                rcases List.mem_append.1 hc with hc | hc
                · exact hjok c hc
                · rw [List.mem_singleton.1 hc]; exact .inr h35
              · (repeat' (first | exact trivial | refine And.intro ?_ ?_)) <;> (first | rfl | skip)
              · rw [hrs, ← List.append_assoc]
                (repeat' (first | exact trivial | refine And.intro ?_ ?_)) <;> (first | rfl | skip)
              · omega
            · have h35' : ¬ ((row.getD j 0).toNat : Int) = 35 := fun e => h35 (u8_eq (n := 35) (by omega) 35 rfl)
              repeat (first | (refine step_ops ?_; (first | (refine m_mov (by conv => lhs; whnf) ?_) | (refine m_lss rfl rfl ?_) | (refine m_eqk rfl rfl ?_) | (refine m_six' rfl rfl ?_ ?_; (· first | omega | (simp; omega))) | (refine m_bld rfl ?_) | (refine m_stall rfl rfl rfl ?_ ?_ ?_ ?_; (· first | rfl | (simp [*]; done)); (· first | rfl | (simp [*]; done)); (· first | rfl | (simp [cellOk, Value.oneCell']; done))))) | refine end_ops ?_ | refine seq_ops ?_ | (refine cond_t rfl ?_ ?_; (· first | rfl | assumption | (refine decide_eq_true ?_; first | assumption | omega) | (refine nt ?_; first | assumption | omega) | (simp [*]; done))) | (refine cond_f rfl ?_ ?_; (· first | rfl | assumption | (refine decide_eq_false ?_; first | assumption | omega) | (refine nf ?_; first | assumption | omega) | (simp [*]; done))) | refine skip_then ?_ | refine AW_seq ?_ | refine AW_ret ?_ | refine ret_then ?_ | refine AW_block ?_ | refine ret_block ?_ | refine ret_round ?_)
              exact hout (hbad fun h => (h.2 _ (getD_memL hcj)).elim h46 h35) rfl rfl rfl
        · obtain rfl : j = row.length := by omega
          rw [List.take_length] at hjok
          repeat (first | (refine step_ops ?_; (first | (refine m_mov (by conv => lhs; whnf) ?_) | (refine m_lss rfl rfl ?_) | (refine m_add rfl rfl ?_ ?_ ?_; (· omega); (· omega)))) | refine end_ops ?_ | refine seq_ops ?_ | refine AW_ops ?_ | (refine cond_f rfl ?_ ?_; (· first | rfl | assumption | (refine decide_eq_false ?_; first | assumption | omega) | (refine nf ?_; first | assumption | omega) | (simp [*]; done))) | refine AW_seq ?_ | refine norm_then ?_ | refine exit_then ?_ | refine norm_block ?_ | refine exit_round ?_ | refine AW_exit ?_ | refine exit_block ?_)
          refine next_round (k + 1) ⟨by omega, hsn ⟨by omega, hjok⟩⟩ (weak_st ?_ ?_ rfl rfl) ?_
          · (repeat' (first | exact trivial | refine And.intro ?_ ?_)) <;> (first | rfl | skip)
          · rw [show posP (fbB B) (sdB B) (k + 1) = posP (fbB B) (sdB B) k ++ rowP (fbB B) k row.length by rw [hlen, ← hsd]; rfl]
            (repeat' (first | exact trivial | refine And.intro ?_ ?_)) <;> (first | rfl | skip)
          · omega
      · repeat (first | (refine step_ops ?_; (first | (refine m_mov (by conv => lhs; whnf) ?_) | (refine m_lss rfl rfl ?_) | (refine m_idx1_ro rfl rfl ?_ ?_; (· omega)))) | refine end_ops ?_ | refine seq_ops ?_ | (refine cond_t rfl ?_ ?_; (· first | rfl | assumption | (refine decide_eq_true ?_; first | assumption | omega) | (refine nt ?_; first | assumption | omega) | (simp [*]; done))) | refine skip_then ?_ | refine AW_seq ?_ | refine AW_block ?_)
        refine step_ops ?_
        refine m_ld_rp rfl hat ?_
        repeat (first | (refine step_ops ?_; (first | (refine m_mov (by conv => lhs; whnf) ?_) | (refine m_neq rfl rfl ?_) | (refine m_slen rfl ?_) | (apply m_ld_pt; (· rfl); (· rfl); (· rfl)) | (refine m_fa rfl ?_) | (refine m_bld rfl ?_) | (refine m_stall rfl rfl rfl ?_ ?_ ?_ ?_; (· first | rfl | (simp [*]; done)); (· first | rfl | (simp [*]; done)); (· first | rfl | (simp [cellOk, Value.oneCell']; done))))) | refine end_ops ?_ | refine seq_ops ?_ | (refine cond_t rfl ?_ ?_; (· first | rfl | assumption | (refine decide_eq_true ?_; first | assumption | omega) | (refine nt ?_; first | assumption | omega) | (simp [*]; done))) | refine AW_seq ?_ | refine AW_ret ?_ | refine ret_then ?_ | refine ret_block ?_ | refine ret_round ?_)
        exact hout (hbad fun h => hlen (by rw [h.1]; exact hsd)) rfl rfl rfl
    · have hg : GoodBd B := (good_iff hc7).2 fun i hi => hok i (by omega)
      obtain rfl : k = sdB B := by omega
      repeat (first | (refine step_ops ?_; (first | (refine m_lss rfl rfl ?_) | (refine m_ldall rfl rfl ?_ ?_; (· first | rfl | (simp; done) | (simp [*]; done))))) | refine end_ops ?_ | refine seq_ops ?_ | (refine cond_f rfl ?_ ?_; (· first | rfl | assumption | (refine decide_eq_false ?_; first | assumption | omega) | (refine nf ?_; first | assumption | omega) | (simp [*]; done))) | refine AW_seq ?_ | refine norm_then ?_ | refine exit_then ?_ | refine exit_round ?_ | refine AW_exit ?_ | refine exit_block ?_)
      refine step_opsW (weak_deep (r := 2) rfl (by simp) rfl) ?_
      refine m_stall (l := [.i (splitB B).length, .mp 18]) rfl rfl rfl rfl rfl rfl ?_
      repeat (first | (refine step_ops ?_; (refine m_mov (by conv => lhs; whnf) ?_)) | refine end_ops ?_ | refine AW_ret ?_)
      refine ret_doneg2 rfl rfl rfl ?_
      unfold bdR bdV
      rw [if_pos hg, decide_eq_true hg]
      exact outs_tup2 (outs_agg2 (outs_i (by rw [hsd])) (outs_mp (by decide) rfl)) (outs_b rfl)
  · have hng : ¬ GoodBd B := fun h => hc7 h.1
    repeat (first | (refine step_ops ?_; (first | (refine m_mov (by conv => lhs; whnf) ?_) | (refine m_alloc ?_))) | refine end_ops ?_ | refine seq_ops ?_)
    (refine step_ops ?_); (apply m_call (splitN_spec B hB)); (· repeat (first | exact lends_nil | (refine lends_cons ?_ ?_; (· exact lend_v))))
    repeat (first | (refine step_ops ?_; (first | (refine m_mov (by conv => lhs; whnf) ?_) | (refine m_len_ro rfl ?_))) | refine end_ops ?_ | refine seq_ops ?_ | refine AW_seq ?_)
    (refine step_ops ?_); (apply m_call (isSide_spec _)); (· repeat (first | exact lends_nil | (refine lends_cons ?_ ?_; (· exact lend_v))))
    repeat (first | (refine step_ops ?_; (first | (refine m_mov (by conv => lhs; whnf) ?_) | (refine m_not rfl ?_) | (refine m_bld rfl ?_) | (refine m_stall rfl rfl rfl ?_ ?_ ?_ ?_; (· first | rfl | (simp [*]; done)); (· first | rfl | (simp [*]; done)); (· first | rfl | (simp [cellOk, Value.oneCell']; done))))) | refine end_ops ?_ | refine seq_ops ?_ | (refine cond_t rfl ?_ ?_; (· first | rfl | assumption | (refine decide_eq_true ?_; first | assumption | omega) | (refine nt ?_; first | assumption | omega) | (simp [*]; done))) | refine AW_ret ?_ | refine ret_then ?_)
    refine ret_doneg2 rfl rfl rfl ?_
    unfold bdR bdV
    rw [if_neg hng, decide_eq_false hng]
    exact outs_tup2 (outs_agg rfl) (outs_b rfl)
end Go.Proofs.YtmmcldbldbpikaaGreatDoor
namespace Go.Am
variable [Go.Am.CodeBlk]
/-- The sum of a function over the first numbers. -/
def sumN : Nat → (Nat → Nat) → Nat
  | 0, _ => 0
  | k + 1, f => sumN k f + f k
theorem sumN_congr {f g : Nat → Nat} : ∀ {n : Nat}, (∀ c, c < n → f c = g c) → sumN n f = sumN n g
  | 0, _ => rfl
  | n + 1, h => by rw [sumN, sumN, sumN_congr fun c hc => h c (by omega), h n (by omega)]
theorem sumN_add (f g : Nat → Nat) : ∀ n : Nat, sumN n (fun c => f c + g c) = sumN n f + sumN n g
  | 0 => rfl
  | n + 1 => by simp only [sumN]; rw [sumN_add f g n]; omega
theorem sumN_zero : ∀ n : Nat, sumN n (fun _ => 0) = 0
  | 0 => rfl
  | n + 1 => by simp only [sumN]; rw [sumN_zero n]
theorem sumN_comm (h : Nat → Nat → Nat) (m : Nat) : ∀ n : Nat, sumN n (fun a => sumN m (fun b => h a b)) = sumN m (fun b => sumN n (fun a => h a b))
  | 0 => by simp only [sumN]; rw [sumN_zero]
  | n + 1 => by simp only [sumN]; rw [sumN_comm h m n, ← sumN_add]
theorem sumN_le {f g : Nat → Nat} : ∀ {n : Nat}, (∀ c, c < n → f c ≤ g c) → sumN n f ≤ sumN n g
  | 0, _ => Nat.le_refl _
  | n + 1, h => Nat.add_le_add (sumN_le fun c hc => h c (by omega)) (h n (by omega))
theorem sumN_const (c : Nat) : ∀ n : Nat, sumN n (fun _ => c) = n * c
  | 0 => by simp [sumN]
  | n + 1 => by simp only [sumN]; rw [sumN_const c n, Nat.succ_mul]
/-- A column more. -/
def insC (T c : Nat) : Nat := T ||| 1 <<< c
theorem insC_bit (T c k : Nat) : (insC T c).testBit k = (T.testBit k || decide (c = k)) := by
  unfold insC
  rw [Nat.testBit_or, Nat.one_shiftLeft, Nat.testBit_two_pow]
theorem insC_comm (T c d : Nat) : insC (insC T c) d = insC (insC T d) c := by
  apply Nat.eq_of_testBit_eq
  intro k
  simp only [insC_bit, Bool.or_assoc]
  congr 1
  rw [Bool.or_comm]
theorem insC_lt {T c n : Nat} (hT : T < 2 ^ n) (hc : c < n) : insC T c < 2 ^ n := by
  unfold insC
  refine Nat.or_lt_two_pow hT ?_
  rw [Nat.one_shiftLeft]
  exact Nat.pow_lt_pow_right (by omega) hc
/-- What a row's term for one column adds. -/
def addC (row : Nat → Bool) (g : Nat → Nat) (T c : Nat) : Nat := if row c && !T.testBit c then g (insC T c) else 0
/-- What a row makes of a test of sets, by its first columns: no rook, or a rook in one of them. -/
def stepR (n : Nat) (row : Nat → Bool) (g : Nat → Nat) (T : Nat) : Nat := g T + sumN n (addC row g T)
theorem stepR_comm (n : Nat) (r s : Nat → Bool) (g : Nat → Nat) (T : Nat) : stepR n r (stepR n s g) T = stepR n s (stepR n r g) T := by
  have key : ∀ r s : Nat → Bool, stepR n r (stepR n s g) T = g T + sumN n (addC s g T) + sumN n (addC r g T) + sumN n (fun c => sumN n (fun d => if (r c && !T.testBit c) && (s d && !(insC T c).testBit d) then g (insC (insC T c) d) else 0)) := by
    intro r s
    have : ∀ c, addC r (stepR n s g) T c = addC r g T c + sumN n (fun d => if (r c && !T.testBit c) && (s d && !(insC T c).testBit d) then g (insC (insC T c) d) else 0) := by
      intro c
      unfold addC stepR
      cases hb : (r c && !T.testBit c)
      · simp [sumN_zero]
      · simp only [if_true, Bool.true_and]
        rfl
    rw [stepR, sumN_congr fun c _ => this c, sumN_add, stepR]
    omega
  rw [key r s, key s r, sumN_comm]
  have : ∀ b, b < n → ∀ a, a < n → (if (r a && !T.testBit a) && (s b && !(insC T a).testBit b) then g (insC (insC T a) b) else 0) = (if (s b && !T.testBit b) && (r a && !(insC T b).testBit a) then g (insC (insC T b) a) else 0) := by
    intro b _ a _
    rw [insC_comm T a b, insC_bit, insC_bit]
    by_cases hab : a = b
    · subst hab; simp
    · have hba : ¬ b = a := fun e => hab e.symm
      simp only [hab, hba, decide_false, Bool.or_false]
      congr 2
      cases r a <;> cases s b <;> cases T.testBit a <;> cases T.testBit b <;> rfl
  have h2 : sumN n (fun b => sumN n (fun a => if (r a && !T.testBit a) && (s b && !(insC T a).testBit b) then g (insC (insC T a) b) else 0)) = sumN n (fun c => sumN n (fun d => if (s c && !T.testBit c) && (r d && !(insC T c).testBit d) then g (insC (insC T c) d) else 0)) :=
    sumN_congr fun b hb => sumN_congr fun a ha => this b hb a ha
  rw [h2]
  omega
theorem stepR_none {n : Nat} {row : Nat → Bool} (h : ∀ c, c < n → row c = false) (g : Nat → Nat) (T : Nat) : stepR n row g T = g T := by
  rw [stepR, sumN_congr (g := fun _ => 0) fun c hc => by simp [addC, h c hc], sumN_zero]
  rfl
/-- Rows, the first one outermost. -/
def rowsR (fb : Nat → Nat → Bool) (n : Nat) : List Nat → (Nat → Nat) → Nat → Nat
  | [], g => g
  | r :: l, g => stepR n (fb r) (rowsR fb n l g)
theorem rowsR_snoc (fb : Nat → Nat → Bool) (n r : Nat) (g : Nat → Nat) : ∀ l : List Nat, rowsR fb n (l ++ [r]) g = rowsR fb n l (stepR n (fb r) g)
  | [] => rfl
  | a :: l => by simp only [List.cons_append, rowsR]; rw [rowsR_snoc fb n r g l]
theorem rowsR_perm {fb : Nat → Nat → Bool} {n : Nat} {l m : List Nat} (h : l.Perm m) (g : Nat → Nat) : rowsR fb n l g = rowsR fb n m g := by
  induction h with
  | nil => rfl
  | cons a _ ih => simp only [rowsR, ih]
  | swap a b l => funext T; exact stepR_comm n (fb b) (fb a) _ T
  | trans _ _ ih1 ih2 => rw [ih1, ih2]
/-- Rows on which nothing is forbidden don't matter. -/
theorem rowsR_filter {fb : Nat → Nat → Bool} {n : Nat} (p : Nat → Bool) : ∀ (l : List Nat), (∀ r ∈ l, p r = false → ∀ c, c < n → fb r c = false) → ∀ g : Nat → Nat, rowsR fb n (l.filter p) g = rowsR fb n l g
  | [], _, _ => rfl
  | r :: l, h, g => by
    have ih := rowsR_filter p l (fun r hr => h r (by simp [hr])) g
    rw [List.filter_cons]
    cases hp : p r
    · simp only [Bool.false_eq_true, if_false, rowsR]
      rw [ih]
      funext T
      exact (stepR_none (h r (by simp) hp) _ T).symm
    · simp only [if_true, rowsR, ih]
/-- All rows that count were taken, each once, in whatever order. -/
theorem rowsR_any {fb : Nat → Nat → Bool} {n : Nat} {l : List Nat} (hn : l.Nodup) (hl : ∀ r ∈ l, r < n) (hall : ∀ r, r < n → r ∉ l → ∀ c, c < n → fb r c = false) (g : Nat → Nat) : rowsR fb n l g = rowsR fb n (List.range n) g := by
  have hp : l.Perm ((List.range n).filter fun r => decide (r ∈ l)) := by
    refine (List.perm_ext_iff_of_nodup hn (List.nodup_range.filter _)).2 fun a => ?_
    simp only [List.mem_filter, List.mem_range, decide_eq_true_eq]
    exact ⟨fun h => ⟨hl a h, h⟩, fun h => h.2⟩
  rw [rowsR_perm hp]
  exact rowsR_filter _ _ (fun r hr hp c hc => hall r (List.mem_range.1 hr) (by simpa using hp) c hc) g
theorem stepR_le {n : Nat} {row : Nat → Bool} {g : Nat → Nat} {b : Nat} (h : ∀ T, g T ≤ b) (T : Nat) : stepR n row g T ≤ (n + 1) * b := by
  have h1 : sumN n (addC row g T) ≤ n * b := by
    rw [← sumN_const]
    refine sumN_le fun c _ => ?_
    unfold addC
    split
    · exact h _
    · omega
  have := h T
  rw [stepR, Nat.succ_mul]
  omega
theorem rowsR_le {fb : Nat → Nat → Bool} {n : Nat} {g : Nat → Nat} {b : Nat} (h : ∀ T, g T ≤ b) : ∀ (l : List Nat) (T : Nat), rowsR fb n l g T ≤ (n + 1) ^ l.length * b
  | [], T => by simpa [rowsR] using h T
  | r :: l, T => by
    have := stepR_le (n := n) (row := fb r) (rowsR_le (fb := fb) (n := n) h l) T
    rw [List.length_cons, Nat.pow_succ, Nat.mul_comm _ (n + 1), Nat.mul_assoc]
    exact this
/-- How many columns a set has. -/
def pop16 (T : Nat) : Nat := sumN 16 fun k => if T.testBit k then 1 else 0
theorem pop_ins {T c : Nat} (hc : c < 16) (h : T.testBit c = false) : pop16 (insC T c) = pop16 T + 1 := by
  have key : ∀ m, sumN m (fun k => if (insC T c).testBit k then 1 else 0) = sumN m (fun k => if T.testBit k then 1 else 0) + (if c < m then 1 else 0) := by
    intro m
    induction m with
    | zero => simp [sumN]
    | succ m ih =>
      simp only [sumN]
      rw [ih, insC_bit]
      by_cases hm : c = m
      · subst hm; simp [h]
      · by_cases h1 : c < m
        · simp [hm, h1, show c < m + 1 by omega]; omega
        · simp [hm, h1, show ¬ c < m + 1 by omega]
  have := key 16
  unfold pop16
  rw [this, if_pos hc]
/-- In how many ways so many rooks can be put in the last rows, with columns taken. -/
def rkG (fb : Nat → Nat → Bool) (n : Nat) : Nat → Nat → Nat → Nat
  | 0, _, k => if k = 0 then 1 else 0
  | m + 1, S, k => rkG fb n m S k + sumN n fun j => if fb (n - (m + 1)) j && !S.testBit j then (match k with | 0 => 0 | q + 1 => rkG fb n m (insC S j) q) else 0
/-- The last rows. -/
def lastR (n : Nat) : Nat → List Nat
  | 0 => []
  | m + 1 => (n - (m + 1)) :: lastR n m
theorem lastR_range (n : Nat) : ∀ m, m ≤ n → lastR n m = List.range' (n - m) m
  | 0, _ => rfl
  | m + 1, h => by rw [lastR, lastR_range n m (by omega), List.range'_succ, show n - (m + 1) + 1 = n - m by omega]
theorem lastR_all (n : Nat) : lastR n n = List.range n := by rw [lastR_range n n (Nat.le_refl _), Nat.sub_self, List.range_eq_range']
def popIs (q T : Nat) : Nat := if pop16 T = q then 1 else 0
theorem rowsR_small {fb : Nat → Nat → Bool} {n q : Nat} (hn : n ≤ 16) : ∀ (l : List Nat) (S : Nat), q < pop16 S → rowsR fb n l (popIs q) S = 0
  | [], S, h => by simp [rowsR, popIs, show pop16 S ≠ q by omega]
  | r :: l, S, h => by
    rw [rowsR, stepR, rowsR_small hn l S h, sumN_congr (g := fun _ => 0) fun c hc => ?_, sumN_zero]
    unfold addC
    split
    · rename_i hb
      simp only [Bool.and_eq_true, Bool.not_eq_true'] at hb
      exact rowsR_small hn l _ (by rw [pop_ins (by omega) hb.2]; omega)
    · rfl
theorem rkG_rows {fb : Nat → Nat → Bool} {n : Nat} (hn : n ≤ 16) : ∀ (m S k : Nat), rkG fb n m S k = rowsR fb n (lastR n m) (popIs (k + pop16 S)) S
  | 0, S, k => by
    simp only [rkG, lastR, rowsR, popIs]
    by_cases h : k = 0
    · simp [h]
    · rw [if_neg h, if_neg (by omega)]
  | m + 1, S, k => by
    rw [rkG, lastR, rowsR, stepR, ← rkG_rows hn m S k]
    congr 1
    refine sumN_congr fun j hj => ?_
    unfold addC
    split
    · rename_i hb
      simp only [Bool.and_eq_true, Bool.not_eq_true'] at hb
      have hp := pop_ins (show j < 16 by omega) hb.2
      cases k with
      | zero => exact (rowsR_small hn _ _ (by rw [hp]; omega)).symm
      | succ q =>
        show rkG fb n m (insC S j) q = _
        rw [rkG_rows hn m (insC S j) q, hp, show q + (pop16 S + 1) = q + 1 + pop16 S by omega]
    · rfl
theorem rkG_le {fb : Nat → Nat → Bool} {n : Nat} : ∀ (m S k : Nat), rkG fb n m S k ≤ (n + 1) ^ m
  | 0, S, k => by rw [rkG]; split <;> simp
  | m + 1, S, k => by
    have h1 : sumN n (fun j => if fb (n - (m + 1)) j && !S.testBit j then (match k with | 0 => 0 | q + 1 => rkG fb n m (insC S j) q) else 0) ≤ n * (n + 1) ^ m := by
      rw [← sumN_const]
      refine sumN_le fun j _ => ?_
      split
      · cases k with
        | zero => exact Nat.zero_le _
        | succ q => exact rkG_le m _ q
      · omega
    have := rkG_le (fb := fb) (n := n) m S k
    rw [rkG, Nat.pow_succ, Nat.mul_succ, Nat.mul_comm _ n]
    omega
/-- The numbers of rooks of a board. -/
def rkN (fb : Nat → Nat → Bool) (n k : Nat) : Nat := rkG fb n n 0 k
theorem rkN_any {fb : Nat → Nat → Bool} {n : Nat} (h16 : n ≤ 16) {l : List Nat} (hn : l.Nodup) (hl : ∀ r ∈ l, r < n) (hall : ∀ r, r < n → r ∉ l → ∀ c, c < n → fb r c = false) (k : Nat) :
    rowsR fb n l (popIs k) 0 = rkN fb n k := by
  rw [rowsR_any hn hl hall, rkN, rkG_rows h16, lastR_all, show pop16 0 = 0 from by decide]
  rfl

/- Ways asx a map's entries: set, number, stamp. -/
structure RWay where
  t : Nat
  v : Nat
  b : Nat
def RWay.ent (p : RWay) : MapEntry := { key := .int .u16 (p.t : Nat), val := .int .i64 (p.v : Nat), born := p.b }
def sumW (w : List RWay) (g : RWay → Nat) : Nat := (w.map g).sum
theorem sumW_cons (p : RWay) (w : List RWay) (g : RWay → Nat) : sumW (p :: w) g = g p + sumW w g := by simp [sumW]
theorem sumW_snoc (p : RWay) (w : List RWay) (g : RWay → Nat) : sumW (w ++ [p]) g = sumW w g + g p := by simp [sumW]
theorem sumW_congr {w : List RWay} {g h : RWay → Nat} (he : ∀ p ∈ w, g p = h p) : sumW w g = sumW w h := by
  unfold sumW
  rw [List.map_congr_left he]
theorem sumW_add (w : List RWay) (g h : RWay → Nat) : sumW w (fun p => g p + h p) = sumW w g + sumW w h := by
  induction w with
  | nil => rfl
  | cons p w ih => simp only [sumW_cons]; rw [ih]; omega
theorem sumW_le {w : List RWay} {g : RWay → Nat} {p : RWay} (h : p ∈ w) : g p ≤ sumW w g := by
  induction w with
  | nil => simp at h
  | cons q w ih =>
    rw [sumW_cons]
    rcases List.mem_cons.1 h with rfl | h
    · omega
    · have := ih h; omega
theorem sumW_mono {w : List RWay} {g h : RWay → Nat} (he : ∀ p ∈ w, g p ≤ h p) : sumW w g ≤ sumW w h := by
  induction w with
  | nil => exact Nat.le_refl _
  | cons q w ih => rw [sumW_cons, sumW_cons]; exact Nat.add_le_add (he q (by simp)) (ih fun p hp => he p (by simp [hp]))
/-- Ways asx a map can hold them. -/
structure WaysOk (n ck : Nat) (w : List RWay) : Prop where
  keys : (w.map (·.t)).Nodup
  born : (w.map (·.b)).Nodup
  old : ∀ p ∈ w, p.b < ck
  lt : ∀ p ∈ w, p.t < 2 ^ n
/-- The weighed sum of a test of sets. -/
def wE (w : List RWay) (g : Nat → Nat) : Nat := sumW w fun p => p.v * g p.t
/-- A number more at a set. -/
theorem ways_set {n ck : Nat} {w : List RWay} (h : WaysOk n ck w) {k : Nat} {p : RWay} (hk : w[k]? = some p) (m : Nat) :
    WaysOk n ck (w.set k { p with v := p.v + m }) ∧ ∀ g, wE (w.set k { p with v := p.v + m }) g = wE w g + m * g p.t := by
  have hmap : ∀ (f : RWay → Nat), f { p with v := p.v + m } = f p → (w.set k { p with v := p.v + m }).map f = w.map f := by
    intro f hf
    rw [List.map_set, hf]
    apply List.ext_getElem?
    intro j
    rw [List.getElem?_set]
    split
    · rename_i e
      subst e
      rw [List.length_map]
      have hlt : k < w.length := (List.getElem?_eq_some_iff.1 hk).1
      rw [if_pos hlt, List.getElem?_map, hk]
      rfl
    · rfl
  refine ⟨⟨by rw [hmap _ rfl]; exact h.keys, by rw [hmap _ rfl]; exact h.born, fun q hq => ?_, fun q hq => ?_⟩, fun g => ?_⟩
  · rcases List.mem_or_eq_of_mem_set hq with hq | rfl
    · exact h.old q hq
    · exact h.old p (List.mem_of_getElem? hk)
  · rcases List.mem_or_eq_of_mem_set hq with hq | rfl
    · exact h.lt q hq
    · exact h.lt p (List.mem_of_getElem? hk)
  · have key : ∀ (w : List RWay) (k : Nat), w[k]? = some p → wE (w.set k { p with v := p.v + m }) g = wE w g + m * g p.t := by
      intro w
      induction w with
      | nil => intro k hk; simp at hk
      | cons q w ih =>
        intro k hk
        cases k with
        | zero =>
          simp at hk
          subst hk
          simp only [List.set_cons_zero, wE, sumW_cons]
          rw [Nat.add_mul]; omega
        | succ k =>
          have := ih k (by simpa using hk)
          simp only [List.set_cons_succ, wE, sumW_cons] at this ⊢
          omega
    exact key w k hk
theorem ways_push {n ck : Nat} {w : List RWay} (h : WaysOk n ck w) {T : Nat} (hT : T < 2 ^ n) (hno : ∀ p ∈ w, p.t ≠ T) (m : Nat) :
    WaysOk n (ck + 1) (w ++ [⟨T, m, ck⟩]) ∧ ∀ g, wE (w ++ [⟨T, m, ck⟩]) g = wE w g + m * g T := by
  refine ⟨⟨?_, ?_, fun q hq => ?_, fun q hq => ?_⟩, fun g => by simp only [wE, sumW_snoc]⟩
  · rw [List.map_append, List.nodup_append]
    refine ⟨h.keys, by simp, fun a ha b hb => ?_⟩
    obtain ⟨p, hp, rfl⟩ := List.mem_map.1 ha
    simp at hb
    rw [hb]
    exact hno p hp
  · rw [List.map_append, List.nodup_append]
    refine ⟨h.born, by simp, fun a ha b hb => ?_⟩
    obtain ⟨p, hp, rfl⟩ := List.mem_map.1 ha
    simp at hb
    have := h.old p hp
    omega
  · rcases List.mem_append.1 hq with hq | hq
    · have := h.old q hq; omega
    · simp at hq; subst hq; show ck < ck + 1; omega
  · rcases List.mem_append.1 hq with hq | hq
    · exact h.lt q hq
    · simp at hq; subst hq; exact hT
/-- One entry more is seen. -/
theorem sumW_seen {w : List RWay} (hn : (w.map (·.b)).Nodup) {seen : Array Nat} {p : RWay} (hp : p ∈ w) (hs : seen.contains p.b = false) (g : RWay → Nat) :
    sumW w (fun q => if (seen.push p.b).contains q.b then g q else 0) = sumW w (fun q => if seen.contains q.b then g q else 0) + g p := by
  have hpush : ∀ b, (seen.push p.b).contains b = (seen.contains b || decide (b = p.b)) := by
    intro b
    by_cases e : b = p.b
    · subst e; simp
    · simp [e]
  induction w with
  | nil => simp at hp
  | cons q w ih =>
    simp only [List.map_cons, List.nodup_cons] at hn
    simp only [sumW_cons]
    rcases List.mem_cons.1 hp with rfl | hp
    · have h1 : sumW w (fun r => if (seen.push p.b).contains r.b then g r else 0) = sumW w (fun r => if seen.contains r.b then g r else 0) := by
        refine sumW_congr fun r hr => ?_
        have : r.b ≠ p.b := fun e => hn.1 (List.mem_map.2 ⟨r, hr, e⟩)
        rw [hpush]
        simp [this]
      rw [h1, hpush, hs]
      simp
      omega
    · have hne : q.b ≠ p.b := fun e => hn.1 (List.mem_map.2 ⟨p, hp, e.symm⟩)
      rw [ih hn.2 hp, hpush]
      simp only [hne, decide_false, Bool.or_false]
      omega
theorem sumW_none (w : List RWay) (g : RWay → Nat) : sumW w (fun q => if (#[] : Array Nat).contains q.b then g q else 0) = 0 := by
  induction w with
  | nil => rfl
  | cons q w ih => rw [sumW_cons, ih]; simp
/-- How many entries are still to come. -/
def leftW (w : List RWay) (seen : Array Nat) : Nat := (w.filter fun q => !seen.contains q.b).length
theorem leftW_lt {w : List RWay} {seen : Array Nat} {p : RWay} (hp : p ∈ w) (hs : seen.contains p.b = false) : leftW w (seen.push p.b) < leftW w seen := by
  have hpush : ∀ b, (seen.push p.b).contains b = (seen.contains b || decide (b = p.b)) := by
    intro b
    by_cases e : b = p.b
    · subst e; simp
    · simp [e]
  unfold leftW
  have hsub : ∀ w : List RWay, (w.filter fun q => !(seen.push p.b).contains q.b) = (w.filter fun q => !seen.contains q.b).filter fun q => !decide (q.b = p.b) := by
    intro w
    rw [List.filter_filter]
    refine List.filter_congr fun q _ => ?_
    rw [hpush, Bool.not_or, Bool.and_comm]
  rw [hsub]
  have hm : p ∈ w.filter fun q => !seen.contains q.b := List.mem_filter.2 ⟨hp, by rw [hs]; rfl⟩
  refine List.length_filter_lt_length_iff_exists.2 ⟨p, hm, by simp⟩
end Go.Am
namespace Go.Am
variable [Go.Am.CodeBlk]
variable {P : Program} {own : Bool} {s : AS} {K : AS → Prop} {d : Option Nat} {x i y : Opd}
/-- The entries of ways. -/
def wA (w : List RWay) : Array MapEntry := (w.map RWay.ent).toArray
abbrev wObj (w : List RWay) (ck : Nat) : Bool × List AV := (true, [.ob (.map (wA w) ck)])
theorem wA_mem {w : List RWay} {e : MapEntry} : e ∈ (wA w).toList ↔ ∃ p ∈ w, p.ent = e := by simp [wA]
theorem wA_get {w : List RWay} {n : Nat} {e : MapEntry} (h : (wA w).toList[n]? = some e) : ∃ p, w[n]? = some p ∧ p.ent = e := by
  simp only [wA, List.getElem?_map, Option.map_eq_some_iff] at h
  exact h
theorem wA_keys (w : List RWay) : ∀ e ∈ (wA w).toList, ∃ q, e.key = .int .u16 q := fun e he => by
  obtain ⟨p, _, rfl⟩ := wA_mem.1 he
  exact ⟨p.t, rfl⟩
theorem ent_key {p : RWay} {T : Nat} (h : p.ent.key = .int .u16 (T : Nat)) : p.t = T := by
  simp only [RWay.ent, Value.int.injEq, true_and] at h
  exact_mod_cast h
theorem wA_born {w : List RWay} (h : (w.map (·.b)).Nodup) : ((wA w).toList.map (·.born)).Nodup := by
  have : (wA w).toList.map (·.born) = w.map (·.b) := by simp [wA, Function.comp_def, RWay.ent]
  rw [this]; exact h
/-- What a map of ways has at a set. -/
def wv (w : List RWay) (T : Nat) : Nat := ((w.find? fun p => p.t == T).map (·.v)).getD 0
theorem wv_mem {w : List RWay} (hk : (w.map (·.t)).Nodup) {p : RWay} (hp : p ∈ w) : wv w p.t = p.v := by
  unfold wv
  induction w with
  | nil => simp at hp
  | cons q w ih =>
    simp only [List.map_cons, List.nodup_cons] at hk
    by_cases e : q.t = p.t
    · have : q = p := by
        rcases List.mem_cons.1 hp with rfl | hp
        · rfl
        · exact absurd (List.mem_map.2 ⟨p, hp, e.symm⟩) hk.1
      simp [this]
    · rcases List.mem_cons.1 hp with rfl | hp
      · exact absurd rfl e
      · rw [List.find?_cons, show (q.t == p.t) = false by simpa using e]
        exact ih hk.2 hp
theorem wv_none {w : List RWay} {T : Nat} (h : ∀ p ∈ w, p.t ≠ T) : wv w T = 0 := by
  unfold wv
  rw [List.find?_eq_none.2 fun p hp => by simpa using h p hp]
  rfl
/-- A map of ways is asked. -/
theorem m_wget {r n ck T : Nat} {w : List RWay} (hw : WaysOk n ck w) (hx : s.ev x = .mp r) (hr : s.hp r = some (wObj w ck)) (hi : s.ev i = .u T) (k : K (s.put d (.i (wv w T : Nat)))) : aop1 P own ⟨d, .mget .u16 (.int .i64 0) false x i, none⟩ s K := by
  refine m_mget hx hr hi (wA_keys w) (fun e he hk => ?_) fun hno => ?_
  · obtain ⟨p, hp, rfl⟩ := wA_mem.1 he
    have := ent_key hk
    rw [← this, wv_mem hw.keys hp] at k
    exact k
  · rw [wv_none fun p hp e => hno p.ent (wA_mem.2 ⟨p, hp, rfl⟩) (by rw [← e]; rfl)] at k
    exact k
/-- A number more at a set. -/
theorem m_wput {r n ck T m : Nat} {w : List RWay} (hw : WaysOk n ck w) (hT : T < 2 ^ n) (hx : s.ev x = .mp r) (hr : s.hp r = some (wObj w ck)) (hi : s.ev i = .u T) (hy : s.ev y = .i (wv w T + m : Nat))
    (k : ∀ w' ck', WaysOk n ck' w' → (∀ g, wE w' g = wE w g + m * g T) → K (s.mem r (wObj w' ck'))) : aop1 P own ⟨none, .mput .u16 x i y, none⟩ s K := by
  refine m_mput hx hr hi hy (wA_keys w) (fun j e he hk => ?_) fun hno => ?_
  · obtain ⟨p, hp, rfl⟩ := wA_get he
    have ht := ent_key hk
    obtain ⟨h1, h2⟩ := ways_set hw hp m
    have h3 := k _ _ h1 (fun g => by rw [h2 g, ht])
    have h4 : (wA w).modify j (fun e => { e with key := .int .u16 (T : Nat), val := .int .i64 ((wv w T + m : Nat) : Int) }) = wA (w.set j { p with v := p.v + m }) := by
      apply Array.ext'
      simp only [wA, List.map_set]
      rw [Array.toList_modify]
      apply List.ext_getElem?
      intro q
      rw [List.getElem?_modify, List.getElem?_set]
      by_cases e : j = q
      · subst e
        have hlt : j < w.length := (List.getElem?_eq_some_iff.1 hp).1
        simp only [if_true, List.getElem?_map, hp, Option.map_some, List.length_map, hlt]
        rw [← ht, wv_mem hw.keys (List.mem_of_getElem? hp)]
        rfl
      · simp [e]
    rw [h4]
    exact h3
  · have hno' : ∀ p ∈ w, p.t ≠ T := fun p hp e => hno p.ent (wA_mem.2 ⟨p, hp, rfl⟩) (by rw [← e]; rfl)
    obtain ⟨h1, h2⟩ := ways_push hw hT hno' m
    have h3 := k _ _ h1 h2
    have h4 : (wA w).push { key := .int .u16 (T : Nat), val := .int .i64 ((wv w T + m : Nat) : Int), born := ck } = wA (w ++ [⟨T, m, ck⟩]) := by
      rw [wv_none hno', Nat.zero_add]
      simp [wA, RWay.ent]
    rw [h4]
    exact h3
/-- The first entry. -/
theorem ways_one (n : Nat) : WaysOk n 1 [⟨0, 1, 0⟩] := ⟨by simp, by simp, by simp, by intro p hp; simp at hp; subst hp; exact Nat.pos_of_ne_zero (by simp)⟩

/- Places that are left, with their stamps. -/
def plE (p : (Nat × Nat) × Nat) : MapEntry := entP p.1 p.2
def plArr (l : List ((Nat × Nat) × Nat)) : Array MapEntry := (l.map plE).toArray
theorem mkEsL_zip : ∀ (l : List (Nat × Nat)) (c : Nat), mkEsL c l = (l.zipIdx c).map plE
  | [], _ => rfl
  | p :: l, c => by rw [mkEsL, mkEsL_zip l (c + 1)]; rfl
theorem mkEs_pl (l : List (Nat × Nat)) : mkEs l = plArr l.zipIdx := by unfold mkEs plArr; rw [mkEsL_zip]
theorem plArr_mem {l : List ((Nat × Nat) × Nat)} {e : MapEntry} : e ∈ (plArr l).toList ↔ ∃ p ∈ l, plE p = e := by simp [plArr]
end Go.Am
namespace Go.Am
variable [Go.Am.CodeBlk]
/-- The bits of a byte, counted. -/
def popB : ByteArray := ⟨#[0, 1, 1, 2, 1, 2, 2, 3, 1, 2, 2, 3, 2, 3, 3, 4, 1, 2, 2, 3, 2, 3, 3, 4, 2, 3, 3, 4, 3, 4, 4, 5, 1, 2, 2, 3, 2, 3, 3, 4, 2, 3, 3, 4, 3, 4, 4, 5, 2, 3, 3, 4, 3, 4, 4, 5, 3, 4, 4, 5, 4, 5, 5, 6, 1, 2, 2, 3, 2, 3, 3, 4, 2, 3, 3, 4, 3, 4, 4, 5, 2, 3, 3, 4, 3, 4, 4, 5, 3, 4, 4, 5, 4, 5, 5, 6, 2, 3, 3, 4, 3, 4, 4, 5, 3, 4, 4, 5, 4, 5, 5, 6, 3, 4, 4, 5, 4, 5, 5, 6, 4, 5, 5, 6, 5, 6, 6, 7, 1, 2, 2, 3, 2, 3, 3, 4, 2, 3, 3, 4, 3, 4, 4, 5, 2, 3, 3, 4, 3, 4, 4, 5, 3, 4, 4, 5, 4, 5, 5, 6, 2, 3, 3, 4, 3, 4, 4, 5, 3, 4, 4, 5, 4, 5, 5, 6, 3, 4, 4, 5, 4, 5, 5, 6, 4, 5, 5, 6, 5, 6, 6, 7, 2, 3, 3, 4, 3, 4, 4, 5, 3, 4, 4, 5, 4, 5, 5, 6, 3, 4, 4, 5, 4, 5, 5, 6, 4, 5, 5, 6, 5, 6, 6, 7, 3, 4, 4, 5, 4, 5, 5, 6, 4, 5, 5, 6, 5, 6, 6, 7, 4, 5, 5, 6, 5, 6, 6, 7, 5, 6, 6, 7, 6, 7, 7, 8]⟩
theorem popP_get : ∀ S < 512, (popB.data.toList.getD (S >>> 8) 0).toNat + (popB.data.toList.getD (S &&& 255) 0).toNat = pop16 S := by decide +kernel
theorem popB_at {j : Nat} (h : j < popB.size) : (popB[j]'h).toNat = (popB.data.toList.getD j 0).toNat := by
  have h2 : j < popB.data.toList.length := h
  rw [List.getD_eq_getElem?_getD, List.getElem?_eq_getElem h2]
  rfl
theorem popB_size : popB.size = 256 := by decide +kernel
theorem popB_le : ∀ j < 256, (popB.data.toList.getD j 0).toNat ≤ 8 := by decide +kernel
section
variable {P : Program} {own : Bool} {s : AS} {K : AS → Prop} {d : Option Nat} {x y : Opd}
theorem m_sixu {b : ByteArray} {j : Nat} {q : IntKind} (hx : s.ev x = .v (.string b)) (hj : s.ev y = .v (.int q (j : Nat))) (h : j < b.size) (k : K (s.put d (.v (.int .u8 (b[j]'h).toNat)))) : aop1 P own ⟨d, .pu .six [x, y], none⟩ s K :=
  ⟨_, ⟨b, q, j, by simp [hx, hj], by omega, by simpa using h, by simp⟩, k⟩
theorem m_addk {q : IntKind} {a b c : Int} (hx : s.ev x = .v (.int q a)) (hy : s.ev y = .v (.int q b)) (hc : q.wrap (a + b) = c) (k : K (s.put d (.v (.int q c)))) : aop1 P own ⟨d, .bin .add x y, none⟩ s K := ⟨_, _, .int q c, hx, hy, by simp [pbin, hc], k⟩
theorem m_shr8 {a : Nat} (hx : s.ev x = .u a) (hy : s.ev y = .v (.int .u64 8)) (kk : K (s.put d (.u (a >>> 8)))) : aop1 P own ⟨d, .bin .shr x y, none⟩ s K := by
  refine ⟨_, _, _, hx, hy, ?_, kk⟩
  show (if (8 : Int) < 0 then none else some (Value.int .u16 ((a : Int).fdiv (2 ^ (min (8 : Int).toNat IntKind.u16.bits))))) = _
  rw [if_neg (by decide), show min (8 : Int).toNat IntKind.u16.bits = 8 from rfl, Nat.shiftRight_eq_div_pow]
  congr 2
  rw [Int.fdiv_eq_ediv_of_nonneg _ (by decide), show (2 : Int) ^ 8 = 256 from rfl, show (2 : Nat) ^ 8 = 256 from rfl]
  omega
theorem m_cvtk {q k : IntKind} {n c : Int} (hx : s.ev x = .v (.int q n)) (hc : k.wrap n = c) (kk : K (s.put d (.v (.int k c)))) : aop1 P own ⟨d, .pu (.cvt k) [x], none⟩ s K := ⟨_, ⟨q, n, by simp [hx], by rw [hc]⟩, kk⟩
end
/- The places that are left. -/
/-- Those of all that D tells. -/
def lfA (fb : Nat → Nat → Bool) (n : Nat) (D : Nat × Nat → Bool) : List ((Nat × Nat) × Nat) := (posP fb n n).zipIdx.filter fun q => D q.1
abbrev lfObj (fb : Nat → Nat → Bool) (n : Nat) (D : Nat × Nat → Bool) : Bool × List AV := (true, [.ob (.map (plArr (lfA fb n D)) (posP fb n n).length)])
theorem lfA_mem {fb : Nat → Nat → Bool} {n : Nat} {D : Nat × Nat → Bool} {q : (Nat × Nat) × Nat} (h : q ∈ lfA fb n D) : (q.1.1 < n ∧ q.1.2 < n ∧ fb q.1.1 q.1.2 = true) ∧ D q.1 = true ∧ q.2 < (posP fb n n).length := by
  obtain ⟨h1, h2⟩ := List.mem_filter.1 h
  have h3 := List.mem_zipIdx h1
  refine ⟨mem_posP.1 ?_, h2, by omega⟩
  rw [h3.2.2]
  exact List.getElem_mem _
theorem lfA_has {fb : Nat → Nat → Bool} {n : Nat} {D : Nat × Nat → Bool} {p : Nat × Nat} (h : p.1 < n ∧ p.2 < n ∧ fb p.1 p.2 = true) (hD : D p = true) : ∃ q ∈ lfA fb n D, q.1 = p := by
  obtain ⟨k, hk, e⟩ := List.mem_iff_getElem.1 (mem_posP.2 h : p ∈ posP fb n n)
  exact ⟨(p, k), List.mem_filter.2 ⟨by rw [List.mem_zipIdx_iff_getElem?]; simp [hk, e], hD⟩, rfl⟩
theorem lfA_all (fb : Nat → Nat → Bool) (n : Nat) : plArr (lfA fb n fun _ => true) = mkEs (posP fb n n) := by
  rw [mkEs_pl, lfA, List.filter_eq_self.2 fun _ _ => rfl]
theorem lfA_congr {fb : Nat → Nat → Bool} {n : Nat} {D E : Nat × Nat → Bool} (h : ∀ p : Nat × Nat, p.1 < n → p.2 < n → fb p.1 p.2 = true → D p = E p) : lfA fb n D = lfA fb n E := by
  refine List.filter_congr fun q hq => ?_
  have h3 := List.mem_zipIdx hq
  have : q.1 ∈ posP fb n n := by rw [h3.2.2]; exact List.getElem_mem _
  obtain ⟨h4, h5, h6⟩ := mem_posP.1 this
  exact h _ h4 h5 h6
theorem posP_nodup (fb : Nat → Nat → Bool) (n : Nat) : ∀ k, (posP fb n k).Nodup
  | 0 => by simp [posP]
  | k + 1 => by
    rw [posP, List.nodup_append]
    refine ⟨posP_nodup fb n k, ?_, fun a ha b hb e => ?_⟩
    · unfold rowP
      refine List.pairwise_map.2 (List.Pairwise.imp ?_ (List.nodup_range.filter fun j => fb k j))
      intro a b h e
      exact h (by simpa using e)
    · have h1 := mem_posP.1 ha
      have h2 := mem_rowP.1 hb
      rw [e] at h1
      omega
theorem lfA_nodup (fb : Nat → Nat → Bool) (n : Nat) (D : Nat × Nat → Bool) : ((lfA fb n D).map (·.1)).Nodup := by
  refine List.Nodup.sublist (List.filter_sublist.map _) (l₂ := (posP fb n n).zipIdx.map (·.1)) ?_
  rw [List.zipIdx_map_fst]
  exact posP_nodup fb n n
theorem lfA_born (fb : Nat → Nat → Bool) (n : Nat) (D : Nat × Nat → Bool) : ((plArr (lfA fb n D)).toList.map (·.born)).Nodup := by
  have e : (plArr (lfA fb n D)).toList.map (·.born) = (lfA fb n D).map (·.2) := by simp [plArr, Function.comp_def, plE, entP]
  rw [e]
  refine List.Nodup.sublist (List.filter_sublist.map _) (l₂ := (posP fb n n).zipIdx.map (·.2)) ?_
  rw [List.zipIdx_map_snd]
  exact List.nodup_range'
theorem erase_filter {L : List ((Nat × Nat) × Nat)} (h : (L.map (·.1)).Nodup) {j : Nat} {q : (Nat × Nat) × Nat} (hj : L[j]? = some q) : L.eraseIdx j = L.filter fun r => !decide (r.1 = q.1) := by
  induction L generalizing j with
  | nil => simp at hj
  | cons a L ih =>
    simp only [List.map_cons, List.nodup_cons] at h
    cases j with
    | zero =>
      simp at hj
      subst hj
      rw [List.eraseIdx_zero, List.tail_cons, List.filter_cons, if_neg (by simp), List.filter_eq_self.2]
      intro r hr
      have : r.1 ≠ a.1 := fun e => h.1 (List.mem_map.2 ⟨r, hr, e⟩)
      simpa using this
    | succ j =>
      have hq : L[j]? = some q := by simpa using hj
      have : a.1 ≠ q.1 := fun e => h.1 (List.mem_map.2 ⟨q, List.mem_of_getElem? hq, e.symm⟩)
      rw [List.eraseIdx_cons_succ, ih h.2 hq, List.filter_cons, if_pos (by simpa using this)]
theorem lfA_erase {fb : Nat → Nat → Bool} {n : Nat} {D : Nat × Nat → Bool} {j : Nat} {q : (Nat × Nat) × Nat} (hj : (lfA fb n D)[j]? = some q) :
    (plArr (lfA fb n D)).eraseIdxIfInBounds j = plArr (lfA fb n fun p => D p && !decide (p = q.1)) := by
  have hlt : j < (plArr (lfA fb n D)).size := by simpa [plArr] using (List.getElem?_eq_some_iff.1 hj).1
  rw [Array.eraseIdxIfInBounds, dif_pos hlt]
  apply Array.ext'
  rw [Array.toList_eraseIdx]
  simp only [plArr]
  rw [show (List.map plE (lfA fb n D)).eraseIdx j = ((lfA fb n D).eraseIdx j).map plE from by simp [List.eraseIdx_eq_take_drop_succ], erase_filter (lfA_nodup fb n D) hj, lfA, List.filter_filter]
  congr 1
  unfold lfA
  refine List.filter_congr fun r _ => ?_
  rw [Bool.and_comm]
theorem plArr_get {l : List ((Nat × Nat) × Nat)} {n : Nat} {e : MapEntry} (h : (plArr l).toList[n]? = some e) : ∃ p, l[n]? = some p ∧ plE p = e := by
  simp only [plArr, List.getElem?_map, Option.map_eq_some_iff] at h
  exact h
theorem plE_key {q : (Nat × Nat) × Nat} {a b : Nat} (h : (plE q).key = keyP a b) : q.1 = (a, b) := by
  obtain ⟨h1, h2⟩ := keyP_inj (h : keyP q.1.1 q.1.2 = keyP a b)
  exact Prod.ext (Int.ofNat_inj.1 h1) (Int.ofNat_inj.1 h2)
end Go.Am
namespace Go.Proofs.YtmmcldbldbpikaaGreatDoor
variable [Go.Am.CodeBlk]
open Go.Am
attribute [local irreducible] AW Outs Weak Lends Lend Sp aops atree aop1 Then Round InBlock Done
attribute [local irreducible] SpH SpX DoneH DoneX
theorem onesP_spec (S : Nat) (hS2 : S < 512) : Sp Tryz.prog 96 [.u S] (.i (pop16 S : Nat)) := by
  have h1 : S >>> 8 < popB.size := by rw [popB_size, Nat.shiftRight_eq_div_pow]; omega
  have h2 : S &&& 255 < popB.size := by rw [popB_size]; exact Nat.lt_of_le_of_lt Nat.and_le_right (by decide)
  have hg := popP_get S hS2
  have e1 := popB_at h1
  have e2 := popB_at h2
  rw [popB_size] at h1 h2
  have l1 := popB_le _ h1
  have l2 := popB_le _ h2
  rw [← popB_size] at h1 h2
  rw [← e1, ← e2] at hg
  rw [← e1] at l1
  rw [← e2] at l2
  rw [← hg]
  refine spec_of Tryz.func96 rfl cc96 rfl ?_
  unfold ac96
  repeat (first | ((first | refine step_ops ?_ | refine step_tree ?_); (refine m_mov (by conv => lhs; whnf) ?_)) | refine end_ops ?_ | refine seq_ops ?_ | refine seq_tree ?_)
  refine step_tree ?_
  refine m_shr8 (a := S) rfl rfl ?_
  refine step_tree ?_
  refine m_sixu (b := popB) (j := S >>> 8) (q := .u16) rfl rfl h1 ?_
  repeat (refine step_tree ?_; (refine m_mov (by conv => lhs; whnf) ?_))
  refine step_tree ?_
  refine m_and16 (a := S) (b := 255) rfl rfl (by omega) (by decide) ?_
  refine step_tree ?_
  refine m_sixu (b := popB) (j := S &&& 255) (q := .u16) rfl rfl h2 ?_
  generalize ((popB[S >>> 8]'h1).toNat) = p at *
  generalize ((popB[S &&& 255]'h2).toNat) = q at *
  have w1 : IntKind.u8.wrap ((p : Int) + (q : Int)) = ((p + q : Nat) : Int) := by
    have : IntKind.u8.wrap ((p : Int) + (q : Int)) = ((p : Int) + (q : Int)) % 256 := by simp [IntKind.wrap, IntKind.bits, IntKind.signed]
    omega
  have w2 : IntKind.i64.wrap ((p + q : Nat) : Int) = ((p + q : Nat) : Int) := by rw [IntKind.wrap_i64]; omega
  refine step_tree ?_
  refine m_addk rfl rfl w1 ?_
  refine step_tree ?_
  refine m_cvtk rfl w2 ?_
  repeat (first | (refine step_tree ?_; (refine m_mov (by conv => lhs; whnf) ?_)) | refine end_tree ?_ | refine AW_ret ?_ | refine ret_done ?_)
  exact outs_i rfl
theorem sizeP_spec (S : Nat) (hS2 : S < 512) : Sp Tryz.prog 91 [.u S] (.i (pop16 S : Nat)) := by
  refine spec_of Tryz.func91 rfl cc91 rfl ?_
  unfold ac91
  repeat (first | (refine step_ops ?_; (refine m_mov (by conv => lhs; whnf) ?_)) | refine end_ops ?_ | refine seq_ops ?_)
  (refine step_ops ?_); (apply m_call (onesP_spec S hS2)); (· repeat (first | exact lends_nil | (refine lends_cons ?_ ?_; (· exact lend_v))))
  repeat (first | (refine step_ops ?_; (refine m_mov (by conv => lhs; whnf) ?_)) | refine end_ops ?_ | refine AW_ret ?_ | refine ret_done ?_)
  exact outs_i rfl
end Go.Proofs.YtmmcldbldbpikaaGreatDoor
namespace Go.Am
variable [Go.Am.CodeBlk]
section
variable {P : Program} {N : Nat} {s : AS} {Q : Exit → AS → Prop}
/-- A scope whose rest is shown once, for the first pass too. -/
theorem AW_scopeL {c rest : ACode} {α : Type} (l : Nat) (Inv : α → Prop) (I : α → AS) (m : α → Nat) (hfind : afind c l = some (.seq .skip rest)) (pass : ∀ x, Inv x → AW P N rest (I x) (Jump l Inv I m (some (m x)) Q))
    (first : (∀ x, Inv x → AW P N rest (I x) (Jump l Inv I m none Q)) → AW P N c s (Jump l Inv I m none Q)) : AW P N (.scope c) s Q :=
  AW_scope l Inv I m hfind (first fun x hx => AW_mono (pass x hx) fun e s h => by
    cases e with
    | goto l' =>
      obtain ⟨h1, x', h2, h3, _⟩ := h
      exact ⟨h1, x', h2, h3, fun n hn => by cases hn⟩
    | _ => exact h) fun x hx => AW_seq (AW_skip (norm_then (pass x hx)))
theorem goto_block {id l : Nat} (h : Q (.goto l) s) : InBlock id Q (.goto l) s := h
theorem goto_then {l : Nat} {K : AS → Prop} (h : Q (.goto l) s) : Then K Q (.goto l) s := h
theorem goto_round {α : Type} {Inv : α → Prop} {I : α → AS} {m : α → Nat} {x : α} {l : Nat} (h : Q (.goto l) s) : Round Inv I m x Q (.goto l) s := h
theorem goto_jump {α : Type} {l : Nat} {Inv : α → Prop} {I : α → AS} {m : α → Nat} {bd : Option Nat} (x : α) (h1 : Inv x) (h2 : Weak s (I x)) (h3 : ∀ n, bd = some n → m x < n) : Jump l Inv I m bd Q (.goto l) s := ⟨rfl, x, h1, h2, h3⟩
/-- Forgetting, with other names for a few regions. -/
theorem weak_stN {l : List (Nat × AV)} {h : List (Nat × (Bool × List AV))} (f : Nat → Nat) (ks : List Nat) (hk : h.map (·.1) = ks) (hd : (ks.map f).Nodup) (hb : (ks.all fun k => decide (k < 4000000) && decide (f k < 4000000)) = true) (hl : HasF s f l) (hh : HasJ s f h)
    (hr : refsT (fun r => (look h r).isSome) l = true) (hrh : refsH (fun r => (look h r).isSome) h = true) : Weak s (st l h) := by
  refine weak_stR f hl hh ?_ (fun p hp => ?_) hr hrh
  · rw [← hk, List.map_map] at hd
    exact hd
  · have h1 := List.all_eq_true.1 hb p.1 (by rw [← hk]; exact List.mem_map.2 ⟨p, hp, rfl⟩)
    simp only [Bool.and_eq_true, decide_eq_true_eq] at h1
    exact .inl h1
end
/-- One name more is told for another. -/
def fNm (a b : Nat) (q : Nat) : Nat := if q = a then b else q
theorem nodup_len {n : Nat} {l : List Nat} (h : l.Nodup) (hl : ∀ r ∈ l, r < n) : l.length ≤ n := by
  have hp : l.Perm ((List.range n).filter fun r => decide (r ∈ l)) := by
    refine (List.perm_ext_iff_of_nodup h (List.nodup_range.filter _)).2 fun a => ?_
    simp only [List.mem_filter, List.mem_range, decide_eq_true_eq]
    exact ⟨fun h => ⟨hl a h, h⟩, fun h => h.2⟩
  have h1 := hp.length_eq
  have h2 := List.length_filter_le (fun r => decide (r ∈ l)) (List.range n)
  rw [List.length_range] at h2
  omega
end Go.Am
namespace Go.Proofs.YtmmcldbldbpikaaGreatDoor
variable [Go.Am.CodeBlk]
open Go.Am
attribute [local irreducible] AW Outs Weak Lends Lend Sp aops atree aop1 Then Round InBlock Done
attribute [local irreducible] SpH SpX DoneH DoneX
def bdN (fb : Nat → Nat → Bool) (n : Nat) : List AV := [.i (n : Nat), .rmp false (mkEs (posP fb n n)) (posP fb n n).length]
/-- The places whose rows were not taken yet. -/
def notIn (l : List Nat) (p : Nat × Nat) : Bool := !l.contains p.1
/-- .., and that are not in the beginning of a row. -/
def notIn2 (l : List Nat) (row c : Nat) (p : Nat × Nat) : Bool := !l.contains p.1 && !(decide (p.1 = row) && decide (p.2 < c))
/-- The numbers of rooks, by the entries that were seen. -/
def rkS (W : List RWay) (n : Nat) (seen : Array Nat) : List Int := (List.range (n + 1)).map fun k => ((sumW W fun q => if seen.contains q.b then q.v * popIs k q.t else 0 : Nat) : Int)
theorem rkS_none (W : List RWay) (n : Nat) : rkS W n #[] = List.replicate (n + 1) 0 := by
  unfold rkS
  rw [List.eq_replicate_iff]
  refine ⟨by simp, fun b hb => ?_⟩
  obtain ⟨k, _, rfl⟩ := List.mem_map.1 hb
  rw [sumW_none]
  rfl
theorem rkS_get (W : List RWay) (seen : Array Nat) {n k : Nat} (h : k < n + 1) : (rkS W n seen).getD k 0 = ((sumW W fun q => if seen.contains q.b then q.v * popIs k q.t else 0 : Nat) : Int) := by
  unfold rkS
  simp [h]
theorem rkS_set {W : List RWay} {n : Nat} {seen : Array Nat} {p : RWay} (hn : (W.map (·.b)).Nodup) (hp : p ∈ W) (hs : seen.contains p.b = false) (hk : pop16 p.t < n + 1) :
    (rkS W n seen).set (pop16 p.t) ((rkS W n seen).getD (pop16 p.t) 0 + (p.v : Nat)) = rkS W n (seen.push p.b) := by
  apply List.ext_getElem?
  intro j
  rw [List.getElem?_set, rkS_get W seen hk]
  have hl : (rkS W n seen).length = n + 1 := by simp [rkS]
  by_cases e : pop16 p.t = j
  · subst e
    rw [if_pos rfl, if_pos (by omega)]
    simp only [rkS, List.getElem?_map, List.getElem?_range hk, Option.map_some]
    rw [sumW_seen hn hp hs (fun q => q.v * popIs (pop16 p.t) q.t)]
    have : popIs (pop16 p.t) p.t = 1 := if_pos rfl
    rw [this]
    simp
  · rw [if_neg e]
    by_cases hj : j < n + 1
    · simp only [rkS, List.getElem?_map, List.getElem?_range hj, Option.map_some]
      rw [sumW_seen hn hp hs (fun q => q.v * popIs j q.t)]
      have : popIs j p.t = 0 := if_neg e
      rw [this]
      simp
    · simp [rkS, hj]
theorem pop_le {T n : Nat} (hn : n ≤ 16) (hT : T < 2 ^ n) : pop16 T ≤ n := by
  have key : ∀ m, sumN m (fun k => if T.testBit k then 1 else 0) ≤ min m n := by
    intro m
    induction m with
    | zero => simp [sumN]
    | succ m ih =>
      simp only [sumN]
      by_cases hm : m < n
      · split <;> omega
      · have : T.testBit m = false := Nat.testBit_lt_two_pow (Nat.lt_of_lt_of_le hT (Nat.pow_le_pow_right (by decide) (by omega)))
        rw [this]
        simp
        omega
  have := key 16
  unfold pop16
  omega
theorem addC_one (row : Nat → Bool) (T c : Nat) : addC row (fun _ => 1) T c ≤ 1 := by
  unfold addC
  split
  · exact Nat.le_refl _
  · omega
theorem sumW_mul (w : List RWay) (g : RWay → Nat) (k : Nat) : sumW w (fun q => g q * k) = sumW w g * k := by
  induction w with
  | nil => simp [sumW]
  | cons q w ih => rw [sumW_cons, sumW_cons, ih, Nat.add_mul]
theorem wv_le (w : List RWay) (T : Nat) : wv w T ≤ wE w (fun _ => 1) := by
  unfold wv
  cases h : w.find? fun p => p.t == T with
  | none => exact Nat.zero_le _
  | some p =>
    have h3 : p.v * 1 ≤ wE w fun _ => 1 := sumW_le (g := fun q => q.v * 1) (List.mem_of_find?_eq_some h)
    show p.v ≤ _
    omega
theorem zeros_flat (k : Nat) : (List.replicate k (List.map AV.v [Value.int .i64 0])).flatten = (List.replicate k (0 : Int)).map AV.i := by
  induction k with
  | zero => rfl
  | succ k ih => rw [List.replicate_succ, List.flatten_cons, ih]; rfl
structure RkInv (fb : Nat → Nat → Bool) (n : Nat) (l : List Nat) (W : List RWay) (ck : Nat) : Prop where
  nd : l.Nodup
  lt : ∀ r ∈ l, r < n
  ok : WaysOk n ck W
  sum : ∀ g, wE W g = rowsR fb n l g 0
abbrev brd (fb : Nat → Nat → Bool) (n : Nat) : Nat × (Bool × List AV) := (1, (true, bdN fb n))
def rkR (fb : Nat → Nat → Bool) (n : Nat) : AV := .ro true 1 (((List.range (n + 1)).map fun k => ((rkN fb n k : Nat) : Int)).map AV.i) (n + 1)
theorem plArr_old {fb : Nat → Nat → Bool} {n : Nat} {D : Nat × Nat → Bool} : ∀ e ∈ (plArr (lfA fb n D)).toList, e.born < (posP fb n n).length := by
  intro e he
  obtain ⟨q, hq, rfl⟩ := plArr_mem.1 he
  exact (lfA_mem hq).2.2
theorem plArr_keys {fb : Nat → Nat → Bool} {n : Nat} {D : Nat × Nat → Bool} (h8 : n ≤ 8) : ∀ e ∈ (plArr (lfA fb n D)).toList, ∃ q, keyOf Tryz.prog 79 e.key = some q := by
  intro e he
  obtain ⟨q, hq, rfl⟩ := plArr_mem.1 he
  have := (lfA_mem hq).1
  exact key_place (wf_int (by omega) (by omega)) (wf_int (by omega) (by omega))
/-- A place is asked for among those that are left. -/
theorem m_lfget {own : Bool} {d : Option Nat} {s : AS} {K : AS → Prop} {x i : Opd} {r a b n : Nat} {fb : Nat → Nat → Bool} {D : Nat × Nat → Bool} (h8 : n ≤ 8) (ha : a < n) (hb : b < n) (hx : s.ev x = .mp r) (hr : s.hp r = some (lfObj fb n D)) (hi : exV (s.ev i) = some (keyP a b))
    (k : K (s.put d (.b (fb a b && D (a, b))))) : aop1 Tryz.prog own ⟨d, .mgetk 79 (.bool false) false x i, none⟩ s K := by
  refine m_mgetk place_law (.inl ⟨r, hx, hr⟩) hi (key_place (wf_int (by omega) (by omega)) (wf_int (by omega) (by omega))) (plArr_keys h8) ?_ ?_ k
  · intro e he hk
    obtain ⟨q, hq, rfl⟩ := plArr_mem.1 he
    have h1 := plE_key hk
    have h2 := lfA_mem hq
    rw [h1] at h2
    have : (fb a b && D (a, b)) = true := by rw [h2.1.2.2, h2.2.1]; rfl
    rw [this]
    rfl
  · intro hno
    have : (fb a b && D (a, b)) = false := by
      rw [Bool.eq_false_iff]
      intro ht
      simp only [Bool.and_eq_true] at ht
      obtain ⟨q, hq, e⟩ := lfA_has (fb := fb) (n := n) (p := (a, b)) ⟨ha, hb, ht.1⟩ ht.2
      exact hno (plE q) (plArr_mem.2 ⟨q, hq, rfl⟩) (by unfold plE entP; rw [e])
    rw [this]
    rfl
/-- A place that is left is deleted. -/
theorem m_lfdel {own : Bool} {d : Option Nat} {s : AS} {K : AS → Prop} {x i : Opd} {r a b n : Nat} {fb : Nat → Nat → Bool} {D : Nat × Nat → Bool} (h8 : n ≤ 8) (ha : a < n) (hb : b < n) (hx : s.ev x = .mp r) (hr : s.hp r = some (lfObj fb n D)) (hi : exV (s.ev i) = some (keyP a b))
    (k : K ((s.mem r (lfObj fb n fun p => D p && !decide (p = (a, b)))).put d (.tup []))) : aop1 Tryz.prog own ⟨d, .mdel 79 x i, none⟩ s K := by
  refine m_mdel place_law hx hr hi (key_place (wf_int (by omega) (by omega)) (wf_int (by omega) (by omega))) (plArr_keys h8) (fun j e he hk => ?_) fun hno => ?_
  · obtain ⟨q, hq, rfl⟩ := plArr_get he
    have h1 := plE_key hk
    rw [lfA_erase hq, h1]
    exact k
  · have e : lfA fb n D = lfA fb n fun p => D p && !decide (p = (a, b)) := by
      unfold lfA
      refine List.filter_congr fun q hq => ?_
      by_cases h : D q.1 = true
      · have : q.1 ≠ (a, b) := fun e => hno (plE q) (plArr_mem.2 ⟨q, List.mem_filter.2 ⟨hq, h⟩, rfl⟩) (by unfold plE entP; rw [e])
        simp [this]
      · simp at h; simp [h]
    rw [e]
    exact k
theorem rookNumbers_spec (fb : Nat → Nat → Bool) (n : Nat) (h1 : 1 ≤ n) (h8 : n ≤ 8) : Sp Tryz.prog 87 [.agg (bdN fb n)] (rkR fb n) := by
  refine spec_of Tryz.func87 rfl cc87 rfl ?_
  unfold ac87
  repeat (first | (refine step_ops ?_; (first | (refine m_nils ?_) | (refine m_box rfl ?_ ?_; (· first | rfl | (simp [cellOk, Value.oneCell']; done))))) | refine end_ops ?_ | refine seq_ops ?_)
  refine AW_scopeL (α := List Nat × List RWay × Nat) 0 (fun x => RkInv fb n x.1 x.2.1 x.2.2)
    (fun x => st [(1, .pt 1 0), (3, .mp 100), (4, .mp 101)] [brd fb n, (100, wObj x.2.1 x.2.2), (101, lfObj fb n (notIn x.1))]) (fun x => n - x.1.length) rfl ?_ ?_
  · rintro ⟨l, W, ck⟩ ⟨hnd, hlt, hok, hsum⟩
    dsimp only at hnd hlt hok hsum ⊢
    repeat (first | (refine step_ops ?_; (refine m_mov (by conv => lhs; whnf) ?_)) | refine seq_ops ?_ | refine AW_seq ?_)
    refine step_ops ?_
    refine m_mrg rfl (by decide) rfl fun bm => ?_
    repeat (first | refine end_ops ?_ | refine AW_block ?_)
    refine AW_loop (α := Unit) (fun _ => True) (fun _ => st [(1, .pt 1 0), (3, .mp 100), (4, .mp 101), (20, .mit 20 (some 101) bm #[] 0)] [brd fb n, (100, wObj W ck), (101, lfObj fb n (notIn l)), (20, (true, [.ob (.mapIter (some bm) (posP fb n n).length #[] (posP fb n n).length)]))])
      (fun _ => 0) () trivial (weak_st ?_ ?_ rfl rfl) ?_
    · (repeat' (first | exact trivial | refine And.intro ?_ ?_)) <;> (first | rfl | skip)
    · (repeat' (first | exact trivial | refine And.intro ?_ ?_)) <;> (first | rfl | skip)
    rintro ⟨⟩ _
    refine AW_seq ?_
    refine AW_ops ?_
    refine step_ops ?_
    refine m_mnx rfl rfl (by decide) rfl plArr_old (Nat.le_refl _) (fun hall => ?_) (fun e he hs => ?_)
    · have hnone : ∀ r, r < n → r ∉ l → ∀ c, c < n → fb r c = false := by
        intro r hr hrl c hc
        rw [Bool.eq_false_iff]
        intro hf
        obtain ⟨q, hq, e⟩ := lfA_has (fb := fb) (n := n) (D := notIn l) (p := (r, c)) ⟨hr, hc, hf⟩ (by simp [notIn, hrl])
        have := hall (plE q) (plArr_mem.2 ⟨q, hq, rfl⟩)
        simp at this
      have hk : ∀ k, wE W (popIs k) = rkN fb n k := fun k => by rw [hsum, rkN_any (by omega) hnd hlt hnone]
      have hW1 : wE W (fun _ => 1) ≤ 43046721 := by
        have hlen := nodup_len hnd hlt
        rw [hsum]
        refine Nat.le_trans (rowsR_le (b := 1) (fun _ => Nat.le_refl _) l 0) ?_
        rw [Nat.mul_one]
        exact Nat.le_trans (Nat.pow_le_pow_left (by omega : n + 1 ≤ 9) _) (Nat.le_trans (Nat.pow_le_pow_right (by omega) (by omega : l.length ≤ 8)) (by decide))
      have hle : ∀ k, rkN fb n k ≤ 43046721 := fun k => by
        rw [← hk]
        refine Nat.le_trans (sumW_mono fun p _ => Nat.mul_le_mul_left p.v (h := ?_)) hW1
        show popIs k p.t ≤ 1
        unfold popIs; split <;> omega
      repeat (first | (refine step_ops ?_; (first | (refine m_add rfl rfl ?_ ?_ ?_; (· omega); (· omega)) | (apply m_ld_pt; (· rfl); (· rfl); (· rfl)) | (refine m_ext rfl rfl ?_) | (refine m_fa rfl ?_))) | refine end_ops ?_ | refine seq_ops ?_ | (refine cond_f rfl ?_ ?_; (· first | rfl | assumption | (refine decide_eq_false ?_; first | assumption | omega) | (refine nf ?_; first | assumption | omega) | (simp [*]; done))) | refine AW_seq ?_ | refine norm_then ?_ | refine exit_then ?_ | refine exit_round ?_ | refine AW_exit ?_ | refine exit_block ?_)
      refine step_ops ?_
      refine m_mk (n := n + 1) rfl rfl (by omega) (by omega) ?_
      repeat (first | (refine step_ops ?_; (refine m_mov (by conv => lhs; whnf) ?_)) | refine end_ops ?_ | refine seq_ops ?_ | refine AW_seq ?_)
      refine step_ops ?_
      refine m_mrg (q := 100) rfl (by decide) rfl fun bm2 => ?_
      repeat (first | refine end_ops ?_ | refine AW_block ?_)
      refine AW_loop (α := Array Nat) (fun _ => True)
        (fun seen => st [(1, .pt 1 0), (11, .sl 65 1 0 (n + 1)), (67, .mit 67 (some 100) bm2 #[] 0)]
          [brd fb n, (65, (true, (rkS W n seen).map AV.i)), (100, wObj W ck), (67, (true, [.ob (.mapIter (some bm2) ck seen ck)]))])
        (fun seen => leftW W seen) #[] trivial (weak_st ?_ ?_ rfl rfl) ?_
      · (repeat' (first | exact trivial | refine And.intro ?_ ?_)) <;> (first | rfl | skip)
      · (repeat' (first | exact trivial | refine And.intro ?_ ?_)) <;> (first | rfl | skip)
        rw [rkS_none]
        show some (true, (List.replicate (n + 1) (List.map AV.v [Value.int .i64 0])).flatten) = _
        rw [zeros_flat]
      rintro seen _
      refine AW_seq ?_
      refine AW_ops ?_
      refine step_ops ?_
      refine m_mnx (q := 100) (r := 67) (c0 := ck) rfl rfl (by decide) rfl (fun e he => ?_) (Nat.le_refl _) (fun hall2 => ?_) (fun e he hs => ?_)
      · obtain ⟨p, hp, rfl⟩ := wA_mem.1 he
        exact hok.old p hp
      · have hfin : rkS W n seen = (List.range (n + 1)).map fun k => ((rkN fb n k : Nat) : Int) := by
          refine List.map_congr_left fun k _ => ?_
          rw [← hk]
          congr 1
          refine sumW_congr fun q hq => ?_
          have h3 : seen.contains q.b = true := hall2 q.ent (wA_mem.2 ⟨q, hq, rfl⟩)
          rw [if_pos h3]
        rw [hfin]
        repeat (first | (refine step_ops ?_; (first | (refine m_mov (by conv => lhs; whnf) ?_) | (refine m_ext rfl rfl ?_))) | refine end_ops ?_ | refine seq_ops ?_ | (refine cond_f rfl ?_ ?_; (· first | rfl | assumption | (refine decide_eq_false ?_; first | assumption | omega) | (refine nf ?_; first | assumption | omega) | (simp [*]; done))) | refine AW_seq ?_ | refine AW_ret ?_ | refine ret_done ?_ | refine norm_then ?_ | refine exit_then ?_ | refine exit_round ?_ | refine AW_exit ?_ | refine exit_block ?_)
        exact outs_sl rfl (by simp) (allv_ints _)
      · obtain ⟨p, hp, rfl⟩ := wA_mem.1 he
        have hpt := hok.lt p hp
        have hpt512 : p.t < 512 := Nat.lt_of_lt_of_le hpt (Nat.pow_le_pow_right (by decide) (by omega : n ≤ 9))
        have hpop : pop16 p.t ≤ n := pop_le (by omega) hpt
        repeat (first | (refine step_ops ?_; (refine m_ext rfl rfl ?_)) | refine end_ops ?_ | refine seq_ops ?_ | (refine cond_t rfl ?_ ?_; (· first | rfl | assumption | (refine decide_eq_true ?_; first | assumption | omega) | (refine nt ?_; first | assumption | omega) | (simp [*]; done))) | refine skip_then ?_ | refine AW_seq ?_ | refine norm_then ?_ | refine AW_block ?_)
        refine step_ops ?_
        refine m_ment (q := 100) (r := 67) (e := p.ent) (ka := .u p.t) (va := .i (p.v : Nat)) rfl rfl (by decide) rfl he (wA_born hok.born) rfl rfl ?_
        repeat (first | (refine step_ops ?_; (first | (refine m_mov (by conv => lhs; whnf) ?_) | (refine m_ext rfl rfl ?_))) | refine end_ops ?_ | refine AW_ops ?_)
        (refine step_ops ?_); (apply m_call (sizeP_spec p.t hpt512)); (· repeat (first | exact lends_nil | (refine lends_cons ?_ ?_; (· exact lend_v))))
        have hgd : (rkS W n seen).getD (pop16 p.t) 0 = ((sumW W fun q => if seen.contains q.b then q.v * popIs (pop16 p.t) q.t else 0 : Nat) : Int) := rkS_get W seen (by omega)
        have hb1 : (sumW W fun q => if seen.contains q.b then q.v * popIs (pop16 p.t) q.t else 0) ≤ 43046721 := by
          refine Nat.le_trans (sumW_mono fun q _ => ?_) hW1
          show _ ≤ q.v * 1
          split
          · exact Nat.mul_le_mul_left _ (by unfold popIs; split <;> omega)
          · omega
        have hb2 : p.v ≤ 43046721 := by
          have h3 : p.v * 1 ≤ wE W fun _ => 1 := sumW_le (g := fun q => q.v * 1) hp
          omega
        have hbs := leftW_lt hp hs
        have hrl : (rkS W n seen).length = n + 1 := by simp [rkS]
        have hb3 : 0 ≤ (rkS W n seen).getD (pop16 p.t) 0 ∧ (rkS W n seen).getD (pop16 p.t) 0 ≤ 43046721 := by rw [hgd]; omega
        repeat (first | (refine step_ops ?_; (first | (refine m_mov (by conv => lhs; whnf) ?_) | (refine m_add rfl rfl ?_ ?_ ?_; (· omega); (· omega)) | (refine m_idx1_sl rfl rfl ?_ ?_; (· omega)) | (refine m_ld_pti rfl (by rfl) ?_ ?_; (· first | omega | (simp; omega))) | (apply m_st; (· rfl); (· rfl); (· rfl); (· first | omega | (simp; done) | (simp; omega)); (· rfl)))) | refine end_ops ?_ | refine norm_block ?_)
        refine next_round (seen.push p.b) trivial (weak_st ?_ ?_ rfl rfl) hbs
        · (repeat' (first | exact trivial | refine And.intro ?_ ?_)) <;> (first | rfl | skip)
        · (repeat' (first | exact trivial | refine And.intro ?_ ?_)) <;> (first | rfl | skip)
          rw [← rkS_set hok.born hp hs (by omega), List.map_set]
          rfl
    · obtain ⟨q, hq, rfl⟩ := plArr_mem.1 he
      obtain ⟨⟨hr, hc, hf⟩, hD, _⟩ := lfA_mem hq
      obtain ⟨⟨row, col⟩, stamp⟩ := q
      dsimp only at hr hc hf
      repeat (first | (refine step_ops ?_; (refine m_ext rfl rfl ?_)) | refine end_ops ?_ | refine seq_ops ?_ | (refine cond_t rfl ?_ ?_; (· first | rfl | assumption | (refine decide_eq_true ?_; first | assumption | omega) | (refine nt ?_; first | assumption | omega) | (simp [*]; done))) | refine skip_then ?_ | refine AW_seq ?_ | refine norm_then ?_ | refine AW_block ?_)
      refine step_ops ?_
      refine m_ment (e := plE ((row, col), stamp)) (ka := .agg [.i (row : Nat), .i (col : Nat)]) (va := .b true) rfl rfl (by decide) rfl he (lfA_born fb n _) rfl rfl ?_
      repeat (first | (refine step_ops ?_; (first | (refine m_mov (by conv => lhs; whnf) ?_) | (refine m_ext rfl rfl ?_) | (refine m_alloc ?_) | (refine m_stall rfl rfl rfl ?_ ?_ ?_ ?_; (· first | rfl | (simp [*]; done)); (· first | rfl | (simp [*]; done)); (· first | rfl | (simp [cellOk, Value.oneCell']; done))))) | refine end_ops ?_ | refine seq_ops ?_)
      refine step_ops ?_
      refine m_clone 102 (cloneWays_spec (wA W) ck) (.inl ⟨100, rfl, rfl⟩) rfl (by decide) ?_
      repeat (first | (refine step_ops ?_; (first | (refine m_mov (by conv => lhs; whnf) ?_) | (apply m_ld_pt; (· rfl); (· rfl); (· rfl)) | (refine m_fa rfl ?_))) | refine end_ops ?_ | refine seq_ops ?_ | refine AW_seq ?_ | refine AW_block ?_)
      have hrl' : row ∉ l := by
        have : (l.contains row) = false := by simpa [notIn] using hD
        simpa using this
      have hlen := nodup_len hnd hlt
      have hW1 : wE W (fun _ => 1) ≤ 43046721 := by
        rw [hsum]
        refine Nat.le_trans (rowsR_le (b := 1) (fun _ => Nat.le_refl _) l 0) ?_
        rw [Nat.mul_one]
        exact Nat.le_trans (Nat.pow_le_pow_left (by omega : n + 1 ≤ 9) _) (Nat.le_trans (Nat.pow_le_pow_right (by omega) (by omega : l.length ≤ 8)) (by decide))
      refine AW_loop (α := Nat × List RWay × Nat) (fun x => x.1 ≤ n ∧ WaysOk n x.2.2 x.2.1 ∧ ∀ g, wE x.2.1 g = sumW W fun q => q.v * (g q.t + sumN x.1 (addC (fb row) g q.t)))
        (fun x => st [(1, .pt 1 0), (3, .mp 100), (4, .mp 101), (5, .pt 5 0), (6, .mp 102), (28, .i (n : Nat)), (29, .i (x.1 : Nat))]
          [brd fb n, (5, (true, [.i (row : Nat), .i (col : Nat)])), (100, wObj W ck), (101, lfObj fb n (notIn2 l row x.1)), (102, wObj x.2.1 x.2.2)])
        (fun x => n - x.1) (0, W, ck) ⟨Nat.zero_le _, hok, fun g => rfl⟩ (weak_st ?_ ?_ rfl rfl) ?_
      · (repeat' (first | exact trivial | refine And.intro ?_ ?_)) <;> (first | rfl | skip)
      · (repeat' (first | exact trivial | refine And.intro ?_ ?_)) <;> (first | rfl | skip)
        show some (lfObj fb n (notIn l)) = some (lfObj fb n (notIn2 l row 0))
        congr 4
        funext p
        simp [notIn, notIn2]
      rintro ⟨c, L, ck2⟩ ⟨hcn, hokL, hsumL⟩
      dsimp only at hcn hokL hsumL ⊢
      by_cases hc8 : c < n
      · repeat (first | (refine step_ops ?_; (first | (refine m_mov (by conv => lhs; whnf) ?_) | (refine m_lss rfl rfl ?_) | (apply m_ld_pt; (· rfl); (· rfl); (· rfl)) | (refine m_alloc ?_) | (refine m_fa rfl ?_) | (refine m_bld_2 (by conv => lhs; whnf) (by conv => lhs; whnf) (by decide)  (by decide) (by rfl) (by rfl) ?_) | (refine m_ldall rfl rfl ?_ ?_; (· first | rfl | (simp; done) | (simp [*]; done))) | (refine m_stall rfl rfl rfl ?_ ?_ ?_ ?_; (· first | rfl | (simp [*]; done)); (· first | rfl | (simp [*]; done)); (· first | rfl | (simp [cellOk, Value.oneCell']; done))))) | refine end_ops ?_ | refine seq_ops ?_ | (refine cond_t rfl ?_ ?_; (· first | rfl | assumption | (refine decide_eq_true ?_; first | assumption | omega) | (refine nt ?_; first | assumption | omega) | (simp [*]; done))) | refine skip_then ?_ | refine AW_seq ?_ | refine AW_block ?_)
        refine step_ops ?_
        refine m_lfget (a := row) (b := c) h8 hr hc8 rfl rfl rfl ?_
        have hD2 : notIn2 l row c (row, c) = true := by simp [notIn2, hrl']
        rw [hD2, Bool.and_true]
        have hlf : lfA fb n (fun p => notIn2 l row c p && !decide (p = (row, c))) = lfA fb n (notIn2 l row (c + 1)) := by
          congr 1
          funext p
          obtain ⟨i, j⟩ := p
          simp only [notIn2, Prod.mk.injEq]
          by_cases e1 : i = row
          · by_cases e2 : j = c
            · simp [e1, e2]
            · have : decide (j < c + 1) = decide (j < c) := decide_eq_decide.2 (by omega)
              simp [e1, e2, this]
          · simp [e1]
        by_cases hf2 : fb row c = true
        · repeat (first | (refine step_ops ?_; (first | (refine m_mov (by conv => lhs; whnf) ?_) | (refine m_not rfl ?_) | (refine m_ldall rfl rfl ?_ ?_; (· first | rfl | (simp; done) | (simp [*]; done))))) | refine end_ops ?_ | refine seq_ops ?_ | (refine cond_f rfl ?_ ?_; (· first | rfl | assumption | (refine decide_eq_false ?_; first | assumption | omega) | (refine nf ?_; first | assumption | omega) | (simp [*]; done))) | refine skip_then ?_)
          refine step_ops ?_
          refine m_lfdel (a := row) (b := c) h8 hr hc8 rfl rfl rfl ?_
          repeat (first | (refine step_ops ?_; (refine m_mov (by conv => lhs; whnf) ?_)) | refine end_ops ?_ | refine seq_ops ?_)
          refine step_ops ?_
          refine m_mrg (q := 100) rfl (by decide) rfl fun bm3 => ?_
          repeat (first | refine end_ops ?_ | refine AW_block ?_)
          refine AW_loop (α := List RWay × Nat × Array Nat) (fun x => WaysOk n x.2.1 x.1 ∧ ∀ g, wE x.1 g = wE L g + sumW W fun q => if x.2.2.contains q.b then q.v * addC (fb row) g q.t c else 0)
            (fun x => st [(1, .pt 1 0), (3, .mp 100), (4, .mp 101), (5, .pt 5 0), (6, .mp 102), (7, .i (c : Nat)), (28, .i (n : Nat)), (29, .i (c : Nat)), (43, .mit 43 (some 100) bm3 #[] 0)]
              [brd fb n, (5, (true, [.i (row : Nat), .i (col : Nat)])), (43, (true, [.ob (.mapIter (some bm3) ck x.2.2 ck)])), (100, wObj W ck), (101, lfObj fb n (notIn2 l row (c + 1))), (102, wObj x.1 x.2.1)])
            (fun x => leftW W x.2.2) (L, ck2, #[]) ⟨hokL, fun g => by rw [sumW_none]; rfl⟩ (weak_st ?_ ?_ rfl rfl) ?_
          · (repeat' (first | exact trivial | refine And.intro ?_ ?_)) <;> (first | rfl | skip)
          · (repeat' (first | exact trivial | refine And.intro ?_ ?_)) <;> (first | rfl | skip)
            show some (true, [AV.ob (.map (plArr _) _)]) = _
            rw [hlf]
          rintro ⟨M, ck3, seen⟩ ⟨hokM, hsumM⟩
          dsimp only at hokM hsumM ⊢
          refine AW_seq ?_
          refine AW_ops ?_
          refine step_ops ?_
          refine m_mnx (q := 100) (r := 43) (c0 := ck) rfl rfl (by decide) rfl (fun e he => ?_) (Nat.le_refl _) (fun hall2 => ?_) (fun e he hs => ?_)
          · obtain ⟨p, hp, rfl⟩ := wA_mem.1 he
            exact hok.old p hp
          · repeat (first | (refine step_ops ?_; (first | (refine m_mov (by conv => lhs; whnf) ?_) | (refine m_add rfl rfl ?_ ?_ ?_; (· omega); (· omega)) | (refine m_ext rfl rfl ?_))) | refine end_ops ?_ | refine AW_ops ?_ | (refine cond_f rfl ?_ ?_; (· first | rfl | assumption | (refine decide_eq_false ?_; first | assumption | omega) | (refine nf ?_; first | assumption | omega) | (simp [*]; done))) | refine AW_seq ?_ | refine norm_then ?_ | refine exit_then ?_ | refine norm_block ?_ | refine exit_round ?_ | refine AW_exit ?_ | refine exit_block ?_)
            refine next_round (c + 1, M, ck3) ⟨by omega, hokM, fun g => ?_⟩ (weak_st ?_ ?_ rfl rfl) (by show n - (c + 1) < n - c; omega)
            · rw [hsumM, hsumL, ← sumW_add]
              refine sumW_congr fun q hq => ?_
              have h3 : seen.contains q.b = true := hall2 q.ent (wA_mem.2 ⟨q, hq, rfl⟩)
              rw [if_pos h3, ← Nat.mul_add, sumN, Nat.add_assoc]
            · (repeat' (first | exact trivial | refine And.intro ?_ ?_)) <;> (first | rfl | skip)
            · (repeat' (first | exact trivial | refine And.intro ?_ ?_)) <;> (first | rfl | skip)
          · obtain ⟨p, hp, rfl⟩ := wA_mem.1 he
            have hpt := hok.lt p hp
            have hpt16 : p.t < 65536 := Nat.lt_of_lt_of_le hpt (Nat.pow_le_pow_right (by decide) (by omega : n ≤ 16))
            have hb2 : p.v ≤ 43046721 := by
              have h3 : p.v * 1 ≤ wE W fun _ => 1 := sumW_le (g := fun q => q.v * 1) hp
              omega
            repeat (first | (refine step_ops ?_; (refine m_ext rfl rfl ?_)) | refine end_ops ?_ | refine seq_ops ?_ | (refine cond_t rfl ?_ ?_; (· first | rfl | assumption | (refine decide_eq_true ?_; first | assumption | omega) | (refine nt ?_; first | assumption | omega) | (simp [*]; done))) | refine skip_then ?_ | refine AW_seq ?_ | refine norm_then ?_ | refine AW_block ?_)
            refine step_ops ?_
            refine m_ment (q := 100) (r := 43) (e := p.ent) (ka := .u p.t) (va := .i (p.v : Nat)) rfl rfl (by decide) rfl he (wA_born hok.born) rfl rfl ?_
            repeat (first | (refine step_ops ?_; (first | (refine m_mov (by conv => lhs; whnf) ?_) | (refine m_ext rfl rfl ?_))) | refine end_ops ?_ | refine seq_ops ?_)
            (refine step_ops ?_); (apply m_call (setHas_spec p.t c hpt16 (by omega))); (· repeat (first | exact lends_nil | (refine lends_cons ?_ ?_; (· exact lend_v))))
            by_cases hbit : p.t.testBit c = true
            · repeat (first | (refine step_ops ?_; (refine m_not rfl ?_)) | refine end_ops ?_ | (refine cond_f rfl ?_ ?_; (· first | rfl | assumption | (refine decide_eq_false ?_; first | assumption | omega) | (refine nf ?_; first | assumption | omega) | (simp [*]; done))) | refine norm_block ?_ | refine AW_skip ?_)
              refine next_round (M, ck3, seen.push p.b) ⟨hokM, fun g => ?_⟩ (weak_st ?_ ?_ rfl rfl) (leftW_lt hp hs)
              · rw [hsumM, sumW_seen hok.born hp hs (fun q => q.v * addC (fb row) g q.t c)]
                have : addC (fb row) g p.t c = 0 := by simp [addC, hbit]
                rw [this]
                omega
              · (repeat' (first | exact trivial | refine And.intro ?_ ?_)) <;> (first | rfl | skip)
              · (repeat' (first | exact trivial | refine And.intro ?_ ?_)) <;> (first | rfl | skip)
            · have hbit : p.t.testBit c = false := by simpa using hbit
              have hT := insC_lt hpt hc8
              have hb4 : wv M (insC p.t c) ≤ 1000000000 := by
                have hM1 : wE M (fun _ => 1) ≤ 1000000000 := by
                  rw [hsumM, hsumL, ← sumW_add]
                  refine Nat.le_trans (sumW_mono (h := fun q => q.v * 1 * 20) fun q _ => ?_) ?_
                  · have h5 : sumN c (addC (fb row) (fun _ => 1) q.t) ≤ c * 1 := by
                      rw [← sumN_const]
                      exact sumN_le fun k _ => addC_one _ _ _
                    have h6 : addC (fb row) (fun _ => 1) q.t c ≤ 1 := addC_one _ _ _
                    have h7 : q.v * (1 + sumN c (addC (fb row) (fun _ => 1) q.t)) ≤ q.v * 9 := Nat.mul_le_mul_left _ (by omega)
                    have h8 : (if seen.contains q.b then q.v * addC (fb row) (fun _ => 1) q.t c else 0) ≤ q.v * 1 := by
                      split
                      · exact Nat.mul_le_mul_left _ h6
                      · omega
                    omega
                  · rw [sumW_mul W (fun q => q.v * 1) 20]
                    show wE W (fun _ => 1) * 20 ≤ _
                    omega
                exact Nat.le_trans (wv_le M _) hM1
              repeat (first | (refine step_ops ?_; (first | (refine m_mov (by conv => lhs; whnf) ?_) | (refine m_not rfl ?_))) | refine end_ops ?_ | refine AW_ops ?_ | (refine cond_t rfl ?_ ?_; (· first | rfl | assumption | (refine decide_eq_true ?_; first | assumption | omega) | (refine nt ?_; first | assumption | omega) | (simp [*]; done))))
              (refine step_ops ?_); (apply m_call (setWith_spec p.t c hpt16 (by omega))); (· repeat (first | exact lends_nil | (refine lends_cons ?_ ?_; (· exact lend_v))))
              refine step_ops ?_
              refine m_wget (T := insC p.t c) hokM rfl rfl rfl ?_
              repeat (refine step_ops ?_; (first | (refine m_mov (by conv => lhs; whnf) ?_) | (refine m_add rfl rfl ?_ ?_ ?_; (· omega); (· omega))))
              refine step_ops ?_
              refine m_wput (r := 102) (T := insC p.t c) (m := p.v) hokM hT rfl rfl rfl ?_ fun M' ck4 hokM' hsumM' => ?_
              · show AV.i _ = AV.i _
                push_cast
                rfl
              repeat (first | refine end_ops ?_ | refine norm_block ?_)
              refine next_round (M', ck4, seen.push p.b) ⟨hokM', fun g => ?_⟩ (weak_st ?_ ?_ rfl rfl) (leftW_lt hp hs)
              · rw [hsumM', hsumM, sumW_seen hok.born hp hs (fun q => q.v * addC (fb row) g q.t c)]
                have : addC (fb row) g p.t c = g (insC p.t c) := by simp [addC, hbit, hf2]
                rw [this]
                omega
              · (repeat' (first | exact trivial | refine And.intro ?_ ?_)) <;> (first | rfl | skip)
              · (repeat' (first | exact trivial | refine And.intro ?_ ?_)) <;> (first | rfl | skip)
        · have hf2 : fb row c = false := by simpa using hf2
          repeat (first | (refine step_ops ?_; (first | (refine m_mov (by conv => lhs; whnf) ?_) | (refine m_add rfl rfl ?_ ?_ ?_; (· omega); (· omega)) | (refine m_not rfl ?_))) | refine end_ops ?_ | refine AW_ops ?_ | (refine cond_t rfl ?_ ?_; (· first | rfl | assumption | (refine decide_eq_true ?_; first | assumption | omega) | (refine nt ?_; first | assumption | omega) | (simp [*]; done))) | refine norm_then ?_ | refine exit_then ?_ | refine AW_exit ?_ | refine exit_block ?_)
          refine next_round (c + 1, L, ck2) ⟨by omega, hokL, fun g => ?_⟩ (weak_st ?_ ?_ rfl rfl) (by show n - (c + 1) < n - c; omega)
          · rw [hsumL]
            refine sumW_congr fun q _ => ?_
            have : addC (fb row) g q.t c = 0 := by simp [addC, hf2]
            rw [sumN, this]
            rfl
          · (repeat' (first | exact trivial | refine And.intro ?_ ?_)) <;> (first | rfl | skip)
          · (repeat' (first | exact trivial | refine And.intro ?_ ?_)) <;> (first | rfl | skip)
            show some (lfObj fb n (notIn2 l row c)) = some (lfObj fb n (notIn2 l row (c + 1)))
            unfold lfObj
            rw [lfA_congr (E := notIn2 l row (c + 1))]
            rintro ⟨i, j⟩ _ _ hff
            simp only [notIn2]
            by_cases e1 : i = row
            · by_cases e2 : j = c
              · subst e1 e2
                rw [hf2] at hff
                cases hff
              · have : decide (j < c + 1) = decide (j < c) := decide_eq_decide.2 (by omega)
                simp [e1, this]
            · simp [e1]
      · have hce : c = n := by omega
        subst hce
        repeat (first | (refine step_ops ?_; (first | (refine m_mov (by conv => lhs; whnf) ?_) | (refine m_lss rfl rfl ?_))) | refine end_ops ?_ | refine seq_ops ?_ | (refine cond_f rfl ?_ ?_; (· first | rfl | assumption | (refine decide_eq_false ?_; first | assumption | omega) | (refine nf ?_; first | assumption | omega) | (simp [*]; done))) | refine AW_seq ?_ | refine norm_then ?_ | refine exit_then ?_ | refine exit_round ?_ | refine AW_exit ?_ | refine exit_block ?_)
        refine AW_goto ?_
        have hnd' : (l ++ [row]).Nodup := by
          rw [List.nodup_append]
          exact ⟨hnd, by simp, fun a ha b hb e => hrl' (by simp at hb; rw [← hb, ← e]; exact ha)⟩
        have hlt' : ∀ r ∈ l ++ [row], r < c := fun r hr' => by
          rcases List.mem_append.1 hr' with h | h
          · exact hlt r h
          · simp at h; omega
        have hlen' := nodup_len hnd' hlt'
        have hinv : RkInv fb c (l ++ [row]) L ck2 := ⟨hnd', hlt', hokL, fun g => by
          rw [rowsR_snoc, ← hsum, hsumL]
          rfl⟩
        refine goto_block (goto_round (goto_block (goto_then ?_)))
        refine goto_jump (l ++ [row], L, ck2) hinv (weak_stN (fNm 100 102) [1, 100, 101] rfl (by decide) (by decide) ?_ ?_ rfl rfl) ?_
        · (repeat' (first | exact trivial | refine And.intro ?_ ?_)) <;> (first | rfl | skip)
        · (repeat' (first | exact trivial | refine And.intro ?_ ?_)) <;> (first | rfl | skip)
          show some (lfObj fb c (notIn2 l row c)) = some (lfObj fb c (notIn (l ++ [row])))
          unfold lfObj
          rw [lfA_congr (E := notIn (l ++ [row]))]
          rintro ⟨i, j⟩ _ hj _
          dsimp only at hj
          simp only [notIn2, notIn, List.contains_append, Bool.not_or]
          congr 1
          by_cases e1 : i = row
          · simp [e1, hj]
          · simp [e1]
        · intro m hm
          cases hm
          show c - (l ++ [row]).length < c - l.length
          rw [List.length_append, List.length_singleton] at hlen' ⊢
          omega
  · intro pass
    repeat (first | (refine step_ops ?_; (refine m_mmk ?_)) | refine seq_ops ?_)
    refine step_ops ?_
    refine m_mput rfl rfl rfl rfl (by simp) (by simp) fun _ => ?_
    repeat (first | (refine step_ops ?_; (first | (refine m_mov (by conv => lhs; whnf) ?_) | (apply m_ld_pt; (· rfl); (· rfl); (· rfl)) | (refine m_fa rfl ?_))) | refine end_ops ?_ | refine seq_ops ?_)
    refine step_ops ?_
    refine m_clone 101 (clonePlaces_spec (mkEs (posP fb n n)) (posP fb n n).length) (.inr ⟨false, rfl⟩) rfl (by decide) ?_
    repeat (first | (refine step_ops ?_; (refine m_mov (by conv => lhs; whnf) ?_)) | refine end_ops ?_ | refine AW_seq ?_)
    refine AW_label ?_
    refine norm_then ?_
    refine AW_weak (weak_stN (fNm 100 14) [1, 100, 101] rfl (by decide) (by decide) ?_ ?_ rfl rfl) (pass ([], [⟨0, 1, 0⟩], 1) ⟨by simp, by simp, ways_one n, fun g => by simp [wE, sumW, rowsR]⟩)
    · (repeat' (first | exact trivial | refine And.intro ?_ ?_)) <;> (first | rfl | skip)
    · (repeat' (first | exact trivial | refine And.intro ?_ ?_)) <;> (first | rfl | skip)
      show some (true, [AV.ob (.map (mkEs (posP fb n n)) _)]) = some (lfObj fb n (notIn []))
      rw [← lfA_all]
      rfl
end Go.Proofs.YtmmcldbldbpikaaGreatDoor
namespace Go.Am
variable [Go.Am.CodeBlk]
/-- A list by its numbers. -/
def rgL (n : Nat) (f : Nat → Nat) : List Int := (List.range (n + 1)).map fun k => ((f k : Nat) : Int)
theorem rgL_len (n : Nat) (f : Nat → Nat) : (rgL n f).length = n + 1 := by simp [rgL]
theorem rgL_get {n k : Nat} (f : Nat → Nat) (h : k < n + 1) : (rgL n f).getD k 0 = (f k : Int) := by simp [rgL, h]
end Go.Am
namespace Go.Proofs.YtmmcldbldbpikaaGreatDoor
variable [Go.Am.CodeBlk]
open Go.Am
attribute [local irreducible] AW Outs Weak Lends Lend Sp aops atree aop1 Then Round InBlock Done
attribute [local irreducible] SpH SpX DoneH DoneX
def rgR (n : Nat) (f : Nat → Nat) : AV := .ro true 1 ((rgL n f).map AV.i) (n + 1)
theorem rkG_le9 {B : List UInt8} (h : GoodBd B) {m : Nat} (hm : m ≤ 8) (S k : Nat) : rkG (fbB B) (sdB B) m S k ≤ 43046721 := by
  have hsd := good_sd h
  exact Nat.le_trans (rkG_le m S k) (Nat.le_trans (Nat.pow_le_pow_left (by omega : sdB B + 1 ≤ 9) _) (Nat.le_trans (Nat.pow_le_pow_right (by omega) hm) (by decide)))
end Go.Proofs.YtmmcldbldbpikaaGreatDoor
namespace Go.Proofs.YtmmcldbldbpikaaGreatDoor
variable [Go.Am.CodeBlk]
open Go.Am
attribute [local irreducible] AW Outs Weak Lends Lend Sp aops atree aop1 Then Round InBlock Done
attribute [local irreducible] SpH SpX DoneH DoneX
theorem rgR_new (n : Nat) (f : Nat → Nat) : rgR n f = newInts (rgL n f) := by
  unfold rgR newInts
  rw [rgL_len]
theorem rookNew_spec (B : List UInt8) (h : GoodBd B) : Sp Tryz.prog 87 [.agg [.i (sdB B : Nat), .rmp false (mkEs (plB B)) (plB B).length]] (newInts (rgL (sdB B) (rkN (fbB B) (sdB B)))) := by
  rw [← rgR_new]
  exact rookNumbers_spec (fbB B) (sdB B) (good_sd h).1 (good_sd h).2
end Go.Proofs.YtmmcldbldbpikaaGreatDoor
namespace Go.Am
variable [Go.Am.CodeBlk]
def fac : Nat → Int
  | 0 => 1
  | n + 1 => fac n * (n + 1)
theorem fac_le : ∀ n < 13, 1 ≤ fac n ∧ fac n ≤ 479001600 := by decide +kernel
def cap : Nat → Int
  | 0 => 479001600
  | s + 1 => 2 * cap s
end Go.Am
namespace Go.Proofs.YtmmcldbldbpikaaGreatDoor
variable [Go.Am.CodeBlk]
open Go.Am
attribute [local irreducible] AW Outs Weak Lends Lend Sp aops atree aop1 Then Round InBlock Done
theorem factorial_spec (n : Nat) (h : n ≤ 12) : Sp Tryz.prog 35 [.i n] (.i (fac n)) := by
  refine spec_of Tryz.func35 rfl cc35 rfl ?_
  unfold ac35
  repeat (first | (refine step_ops ?_; (refine m_mov (by conv => lhs; whnf) ?_)) | refine end_ops ?_ | refine seq_ops ?_ | refine AW_seq ?_ | refine AW_block ?_)
  refine AW_loop (α := Nat) (fun j => j + 1 ≤ n ∨ j = 0) (fun j => st [(0, .i n), (3, .i (fac (j + 1))), (4, .i ((j : Int) + 2))] []) (fun j => n - j) 0 (.inr rfl) (weak_st ?_ ?_ rfl rfl) ?_
  · (repeat' (first | exact trivial | refine And.intro ?_ ?_)) <;> (first | rfl | skip)
  · trivial
  intro j hj
  by_cases hc : (j : Int) + 2 ≤ n
  · have hb := fac_le (j + 2) (by omega)
    have e : fac (j + 2) = fac (j + 1) * ((j : Int) + 2) := rfl
    rw [e] at hb
    repeat (first | (refine step_ops ?_; (first | (refine m_mov (by conv => lhs; whnf) ?_) | (refine m_leq rfl rfl ?_) | (refine m_add rfl rfl ?_ ?_ ?_; (· omega); (· omega)) | (refine m_mul rfl rfl ?_ ?_ ?_; (· first | omega | (simp; done)); (· first | omega | (simp; done))))) | refine end_ops ?_ | refine seq_ops ?_ | refine AW_ops ?_ | (refine cond_t rfl ?_ ?_; (· first | rfl | assumption | (refine decide_eq_true ?_; first | assumption | omega) | (refine nt ?_; first | assumption | omega) | (simp [*]; done))) | refine skip_then ?_ | refine AW_seq ?_ | refine norm_then ?_ | refine AW_block ?_ | refine norm_block ?_)
    refine next_round (j + 1) (by omega) (weak_st ?_ ?_ rfl rfl) ?_
    · (repeat' (first | exact trivial | refine And.intro ?_ ?_)) <;> (first | rfl | skip)
    · trivial
    · omega
  · repeat (first | (refine step_ops ?_; (first | (refine m_mov (by conv => lhs; whnf) ?_) | (refine m_leq rfl rfl ?_))) | refine end_ops ?_ | refine seq_ops ?_ | (refine cond_f rfl ?_ ?_; (· first | rfl | assumption | (refine decide_eq_false ?_; first | assumption | omega) | (refine nf ?_; first | assumption | omega) | (simp [*]; done))) | refine AW_seq ?_ | refine AW_ret ?_ | refine ret_done ?_ | refine norm_then ?_ | refine exit_then ?_ | refine exit_round ?_ | refine AW_exit ?_ | refine exit_block ?_)
    refine outs_i ?_
    rcases hj with hj | rfl
    · have : j + 1 = n := by omega
      rw [this]
    · have : n = 0 ∨ n = 1 := by omega
      rcases this with rfl | rfl <;> rfl
end Go.Proofs.YtmmcldbldbpikaaGreatDoor
namespace Go.Proofs.YtmmcldbldbpikaaGreatDoor
variable [Go.Am.CodeBlk]
open Go.Am
attribute [local irreducible] AW Outs Weak Lends Lend Sp aops atree aop1 Then Round InBlock Done
theorem commonDivisor_spec (a b : Nat) : Sp Tryz.prog 64 [.i a, .i b] (.i (Nat.gcd a b)) := by
  refine spec_of Tryz.func64 rfl cc64 rfl ?_
  unfold ac64
  repeat (first | (refine step_ops ?_; (refine m_mov (by conv => lhs; whnf) ?_)) | refine end_ops ?_ | refine seq_ops ?_ | refine AW_seq ?_ | refine AW_block ?_)
  refine AW_loop (α := Nat × Nat) (fun q => Nat.gcd q.1 q.2 = Nat.gcd a b) (fun q => st [(0, .i q.1), (1, .i q.2)] []) (fun q => q.2) (a, b) rfl (weak_st ?_ ?_ rfl rfl) ?_
  · (repeat' (first | exact trivial | refine And.intro ?_ ?_)) <;> (first | rfl | skip)
  · trivial
  rintro ⟨u, v⟩ hq
  dsimp only at hq ⊢
  by_cases hc : v = 0
  · subst hc
    have hc' : ((0 : Nat) : Int) = 0 := rfl
    repeat (first | (refine step_ops ?_; (first | (refine m_mov (by conv => lhs; whnf) ?_) | (refine m_neq rfl rfl ?_))) | refine end_ops ?_ | refine seq_ops ?_ | (refine cond_f rfl ?_ ?_; (· first | rfl | assumption | (refine decide_eq_false ?_; first | assumption | omega) | (refine nf ?_; first | assumption | omega) | (simp [*]; done))) | refine AW_seq ?_ | refine AW_ret ?_ | refine ret_done ?_ | refine norm_then ?_ | refine exit_then ?_ | refine exit_round ?_ | refine AW_exit ?_ | refine exit_block ?_)
    refine outs_i ?_
    rw [← hq, Nat.gcd_zero_right]
  · have hc' : ¬ (v : Int) = 0 := by omega
    repeat (first | ((first | refine step_ops ?_ | refine step_tree ?_); (first | (refine m_mov (by conv => lhs; whnf) ?_) | (refine m_neq rfl rfl ?_) | (refine m_rem rfl rfl ?_ ?_ ?_; (· omega); (· omega)))) | refine end_ops ?_ | refine seq_ops ?_ | refine end_tree ?_ | refine AW_tree ?_ | (refine cond_t rfl ?_ ?_; (· first | rfl | assumption | (refine decide_eq_true ?_; first | assumption | omega) | (refine nt ?_; first | assumption | omega) | (simp [*]; done))) | refine skip_then ?_ | refine AW_seq ?_ | refine AW_block ?_ | refine norm_block ?_)
    refine next_round (v, u % v) ?_ (weak_st ?_ ?_ rfl rfl) ?_
    · dsimp only
      rw [← hq, Nat.gcd_comm u v, Nat.gcd_rec v u, Nat.gcd_comm]
    · (repeat' (first | exact trivial | refine And.intro ?_ ?_)) <;> (first | rfl | skip)
    · trivial
    · exact Nat.mod_lt _ (by omega)
theorem exLow_spec (a b : Nat) (ha : a ≤ 100000000000) (hb : b ≤ 100000000000) (h1 : 1 ≤ b) : Sp Tryz.prog 44 [.i a, .i b] (.tup [.i ((a : Int) / (Nat.gcd a b : Nat)), .i ((b : Int) / (Nat.gcd a b : Nat))]) := by
  refine spec_of Tryz.func44 rfl cc44 rfl ?_
  unfold ac44
  repeat (first | (refine step_ops ?_; (refine m_mov (by conv => lhs; whnf) ?_)) | refine end_ops ?_ | refine seq_ops ?_ | refine AW_seq ?_ | refine AW_block ?_)
  refine AW_loop (α := Nat × Nat) (fun q => Nat.gcd q.1 q.2 = Nat.gcd a b) (fun q => st [(0, .i a), (1, .i b), (6, .i q.1), (7, .i q.2)] []) (fun q => q.2) (a, b) rfl (weak_st ?_ ?_ rfl rfl) ?_
  · (repeat' (first | exact trivial | refine And.intro ?_ ?_)) <;> (first | rfl | skip)
  · trivial
  rintro ⟨u, v⟩ hq
  dsimp only at hq ⊢
  by_cases hc : v = 0
  · subst hc
    rw [Nat.gcd_zero_right] at hq
    have hu : 0 < u := by rw [hq]; exact Nat.gcd_pos_of_pos_right _ h1
    repeat (first | ((first | refine step_ops ?_ | refine step_tree ?_); (first | (refine m_mov (by conv => lhs; whnf) ?_) | (refine m_gtr rfl rfl ?_) | (refine m_quo rfl rfl ?_ ?_ ?_ ?_; (· omega); (· omega); (· omega)))) | refine end_ops ?_ | refine seq_ops ?_ | refine end_tree ?_ | refine seq_tree ?_ | (refine cond_f rfl ?_ ?_; (· first | rfl | assumption | (refine decide_eq_false ?_; first | assumption | omega) | (refine nf ?_; first | assumption | omega) | (simp [*]; done))) | refine AW_seq ?_ | refine AW_ret ?_ | refine ret_done ?_ | refine norm_then ?_ | refine exit_then ?_ | refine exit_round ?_ | refine AW_exit ?_ | refine exit_block ?_)
    refine outs_tup2 (outs_i ?_) (outs_i ?_) <;> rw [hq]
  · have hc' : 0 < (v : Int) := by omega
    repeat (first | ((first | refine step_ops ?_ | refine step_tree ?_); (first | (refine m_mov (by conv => lhs; whnf) ?_) | (refine m_gtr rfl rfl ?_) | (refine m_rem rfl rfl ?_ ?_ ?_; (· omega); (· omega)))) | refine end_ops ?_ | refine seq_ops ?_ | refine end_tree ?_ | refine AW_tree ?_ | (refine cond_t rfl ?_ ?_; (· first | rfl | assumption | (refine decide_eq_true ?_; first | assumption | omega) | (refine nt ?_; first | assumption | omega) | (simp [*]; done))) | refine skip_then ?_ | refine AW_seq ?_ | refine AW_block ?_ | refine norm_block ?_)
    refine next_round (v, u % v) ?_ (weak_st ?_ ?_ rfl rfl) ?_
    · dsimp only
      rw [← hq, Nat.gcd_comm u v, Nat.gcd_rec v u, Nat.gcd_comm]
    · (repeat' (first | exact trivial | refine And.intro ?_ ?_)) <;> (first | rfl | skip)
    · trivial
    · exact Nat.mod_lt _ (by omega)
end Go.Proofs.YtmmcldbldbpikaaGreatDoor
namespace Go.Proofs.YtmmcldbldbpikaaGreatDoor
variable [Go.Am.CodeBlk]
open Go.Am
attribute [local irreducible] AW Outs Weak Lends Lend Sp aops atree aop1 Then Round InBlock Done
theorem l1Own_spec (L : List Int) (hL : L.length ≤ 1048576) : Sp Tryz.prog 71 [ints L] (newInts L) := by
  refine spec_of Tryz.func71 rfl cc71 rfl ?_
  unfold ac71
  repeat (first | (refine step_ops ?_; (first | (refine m_mov (by conv => lhs; whnf) ?_) | (refine m_nils ?_) | (refine m_bsl0 ?_) | (refine m_appro rfl (by decide) rfl (by first | rfl | (simp; done) | (simp [*]; done) | (simp; omega)) rfl (oks_ints _) ?_ (by decide) ?_; (· first | omega | (simp; omega))))) | refine end_ops ?_ | refine seq_ops ?_ | refine AW_ret ?_ | refine ret_done ?_)
  exact outs_ints rfl rfl (Nat.zero_add _)
theorem slicesClone_spec (L : List Int) (hL : L.length ≤ 1048576) (h1 : 1 ≤ L.length) : Sp Tryz.prog 78 [ints L] (newInts L) := by
  refine spec_of Tryz.func78 rfl cc78 rfl ?_
  unfold ac78
  repeat (first | (refine step_ops ?_; (first | (refine m_mov (by conv => lhs; whnf) ?_) | (refine m_isnil_ro rfl ?_ ?_; (· omega)) | (refine m_nils ?_) | (refine m_bsl0 ?_) | (refine m_appro rfl (by decide) rfl (by first | rfl | (simp; done) | (simp [*]; done) | (simp; omega)) rfl (oks_ints _) ?_ (by decide) ?_; (· first | omega | (simp; omega))))) | refine end_ops ?_ | refine seq_ops ?_ | (refine cond_f rfl ?_ ?_; (· first | rfl | assumption | (refine decide_eq_false ?_; first | assumption | omega) | (refine nf ?_; first | assumption | omega) | (simp [*]; done))) | refine skip_then ?_ | refine AW_seq ?_ | refine AW_ret ?_ | refine ret_done ?_)
  exact outs_ints rfl rfl (Nat.zero_add _)
end Go.Proofs.YtmmcldbldbpikaaGreatDoor
namespace Go.Am
variable [Go.Am.CodeBlk]
/-- What the machine makes of a number that is too large. -/
def w64 (x : Int) : Int := IntKind.i64.wrap x
section
variable {P : Program} {own : Bool} {s : AS} {K : AS → Prop} {d : Option Nat} {x y : Opd} {a b : Int}
theorem m_subw (hx : s.ev x = .i a) (hy : s.ev y = .i b) (k : K (s.put d (.i (w64 (a - b))))) : aop1 P own ⟨d, .bin .sub x y, none⟩ s K := ⟨_, _, _, hx, hy, rfl, k⟩
theorem m_mulw (hx : s.ev x = .i a) (hy : s.ev y = .i b) (k : K (s.put d (.i (w64 (a * b))))) : aop1 P own ⟨d, .bin .mul x y, none⟩ s K := ⟨_, _, _, hx, hy, rfl, k⟩
end
/-- Choices of k of n; behind j steps. -/
def chy (n k : Nat) : Nat → Int
  | 0 => 1
  | j + 1 => chy n k j * ((n : Int) - k + ((j : Int) + 1)) / ((j : Int) + 1)
theorem chy_bin : ∀ n < 9, ∀ k < n + 1, chy n k k = fac n / (fac k * fac (n - k)) ∧ (1 ≤ fac k * fac (n - k) ∧ fac k * fac (n - k) ≤ 40320) ∧ 1 ≤ fac n ∧ fac n ≤ 40320 := by decide +kernel
/-- What is left of those chosen behind j steps: of k, with the numbers of those that have more. -/
def hF (c : Int) (k : Nat) (rest : List Int) : Nat → Int
  | 0 => c
  | j + 1 => w64 (hF c k rest j - w64 (chy (k + 1 + j) k k * rest.getD j 0))
/-- The last numbers of hits. -/
def hL (C : Nat → Int) (n : Nat) : Nat → List Int
  | 0 => []
  | d + 1 => hF (C (n - d)) (n - d) (hL C n d) d :: hL C n d
theorem hL_len (C : Nat → Int) (n : Nat) : ∀ d, (hL C n d).length = d
  | 0 => rfl
  | d + 1 => by rw [hL, List.length_cons, hL_len C n d]
/-- What is chosen. -/
def chC (f : Nat → Nat) (n k : Nat) : Int := (f k : Int) * fac (n - k)
def chL (f : Nat → Nat) (n k : Nat) : List Int := (List.range k).map fun i => chC f n i
theorem chL_len (f : Nat → Nat) (n k : Nat) : (chL f n k).length = k := by simp [chL]
theorem chC_le {f : Nat → Nat} {n k : Nat} (hf : f k ≤ 43046721) (hn : n ≤ 8) : 0 ≤ chC f n k ∧ chC f n k ≤ 43046721 * 479001600 := by
  have h1 := fac_le (n - k) (by omega)
  unfold chC
  exact ⟨Int.mul_nonneg (by omega) (by omega), Int.mul_le_mul (by omega) h1.2 (by omega) (by omega)⟩
end Go.Am
namespace Go.Proofs.YtmmcldbldbpikaaGreatDoor
variable [Go.Am.CodeBlk]
open Go.Am
attribute [local irreducible] AW Outs Weak Lends Lend Sp aops atree aop1 Then Round InBlock Done
attribute [local irreducible] SpH SpX DoneH DoneX
theorem countChoicesY_spec (n k : Nat) (hn : n ≤ 8) (hk : k ≤ n) : Sp Tryz.prog 60 [.i n, .i k] (.i (chy n k k)) := by
  have hb := chy_bin n (by omega) k (by omega)
  rw [hb.1]
  refine spec_of Tryz.func60 rfl cc60 rfl ?_
  unfold ac60
  repeat (first | (refine step_ops ?_; (refine m_mov (by conv => lhs; whnf) ?_)) | refine end_ops ?_ | refine seq_ops ?_)
  (refine step_ops ?_); (apply m_call (factorial_spec n (by omega))); (· repeat (first | exact lends_nil | (refine lends_cons ?_ ?_; (· exact lend_v))))
  repeat (refine step_ops ?_; (refine m_mov (by conv => lhs; whnf) ?_))
  (refine step_ops ?_); (apply m_call (factorial_spec k (by omega))); (· repeat (first | exact lends_nil | (refine lends_cons ?_ ?_; (· exact lend_v))))
  repeat (refine step_ops ?_; (first | (refine m_mov (by conv => lhs; whnf) ?_) | (refine m_sub rfl rfl ?_ ?_ ?_; (· omega); (· omega))))
  rw [show (n : Int) - (k : Int) = ((n - k : Nat) : Int) by omega]
  (refine step_ops ?_); (apply m_call (factorial_spec (n - k) (by omega))); (· repeat (first | exact lends_nil | (refine lends_cons ?_ ?_; (· exact lend_v))))
  repeat (first | (refine step_ops ?_; (first | (refine m_mov (by conv => lhs; whnf) ?_) | (refine m_mul rfl rfl ?_ ?_ ?_; (· first | omega | (simp; done)); (· first | omega | (simp; done))) | (refine m_quo rfl rfl ?_ ?_ ?_ ?_; (· omega); (· omega); (· omega)))) | refine end_ops ?_ | refine AW_ret ?_ | refine ret_done ?_)
  exact outs_i rfl
theorem justSoManyY_spec (f : Nat → Nat) (n : Nat) (h1 : 1 ≤ n) (h8 : n ≤ 8) : Sp Tryz.prog 61 [ints (chL f n (n + 1))] (newInts (hL (chC f n) n (n + 1))) := by
  have hcl := chL_len f n (n + 1)
  refine spec_of Tryz.func61 rfl cc61 rfl ?_
  unfold ac61
  repeat (first | (refine step_ops ?_; (first | (refine m_mov (by conv => lhs; whnf) ?_) | (refine m_nils ?_))) | refine end_ops ?_ | refine seq_ops ?_)
  refine step_ops ?_; (apply m_callo (slicesClone_spec (chL f n (n + 1)) (by omega) (by omega))); (· repeat (first | exact lends_nil | (refine lends_cons ?_ ?_; (· (refine lend_ints ?_; first | rfl | omega))))); (· first | exact allv_ints _ | rfl | (simp; done))
  repeat (first | (refine step_ops ?_; (first | (refine m_mov (by conv => lhs; whnf) ?_) | (refine m_sub rfl rfl ?_ ?_ ?_; (· omega); (· omega)) | (refine m_len_sl rfl ?_))) | refine end_ops ?_ | refine seq_ops ?_ | refine AW_seq ?_ | refine AW_block ?_)
  refine AW_loop (α := Nat) (fun d => d ≤ n + 1) (fun d => st [(3, .sl 7 1 0 (n + 1)), (4, .i (((n + 1 - d : Nat) : Int) - 1))] [(7, (true, (chL f n (n + 1 - d) ++ hL (chC f n) n d).map AV.i))]) (fun d => n + 1 - d) 0 (by omega) (weak_st ?_ ?_ rfl rfl) ?_
  · (repeat' (first | exact trivial | refine And.intro ?_ ?_)) <;> (first | rfl | skip)
    · show AV.sl 7 1 0 (chL f n (n + 1)).length = _
      rw [hcl]
    · show AV.i (((chL f n (n + 1)).length : Nat) - 1 : Int) = _
      rw [hcl]
      rfl
  · (repeat' (first | exact trivial | refine And.intro ?_ ?_)) <;> (first | rfl | skip)
    show some (true, List.map AV.i (chL f n (n + 1))) = some (true, List.map AV.i (chL f n (n + 1) ++ []))
    rw [List.append_nil]
  intro d hd
  have hll := hL_len (chC f n) n d
  by_cases hc : d < n + 1
  · obtain ⟨k, hk⟩ : ∃ k, n - d = k := ⟨_, rfl⟩
    have hkd : n + 1 - d = k + 1 := by omega
    have hcs : chL f n (k + 1) = chL f n k ++ [chC f n k] := by simp [chL, List.range_succ]
    rw [hkd, show ((k + 1 : Nat) : Int) - 1 = (k : Int) by omega, hcs, List.append_assoc, List.singleton_append]
    have hlk := chL_len f n k
    repeat (first | (refine step_ops ?_; (first | (refine m_mov (by conv => lhs; whnf) ?_) | (refine m_geq rfl rfl ?_) | (refine m_add rfl rfl ?_ ?_ ?_; (· omega); (· omega)))) | refine end_ops ?_ | refine seq_ops ?_ | (refine cond_t rfl ?_ ?_; (· first | rfl | assumption | (refine decide_eq_true ?_; first | assumption | omega) | (refine nt ?_; first | assumption | omega) | (simp [*]; done))) | refine skip_then ?_ | refine AW_seq ?_ | refine AW_block ?_)
    refine AW_loop (α := Nat) (fun j => j ≤ d) (fun j => st [(3, .sl 7 1 0 (n + 1)), (4, .i k), (5, .i ((k + 1 + j : Nat) : Int))] [(7, (true, (chL f n k ++ hF (chC f n k) k (hL (chC f n) n d) j :: hL (chC f n) n d).map AV.i))]) (fun j => d - j) 0 (by omega) (weak_st ?_ ?_ rfl rfl) ?_
    · (repeat' (first | exact trivial | refine And.intro ?_ ?_)) <;> (first | rfl | skip)
    · (repeat' (first | exact trivial | refine And.intro ?_ ?_)) <;> (first | rfl | skip)
    intro j hj
    have hM : (chL f n k ++ hF (chC f n k) k (hL (chC f n) n d) j :: hL (chC f n) n d).length = n + 1 := by
      rw [List.length_append, List.length_cons, hll, hlk]; omega
    by_cases hc2 : j < d
    · have g1 : (chL f n k ++ hF (chC f n k) k (hL (chC f n) n d) j :: hL (chC f n) n d).getD k 0 = hF (chC f n k) k (hL (chC f n) n d) j := by
        rw [List.getD_eq_getElem?_getD, List.getElem?_append_right (by omega), hlk, Nat.sub_self]; rfl
      have g2 : (chL f n k ++ hF (chC f n k) k (hL (chC f n) n d) j :: hL (chC f n) n d).getD (k + 1 + j) 0 = (hL (chC f n) n d).getD j 0 := by
        rw [List.getD_eq_getElem?_getD, List.getElem?_append_right (by omega), hlk, show k + 1 + j - k = j + 1 by omega]; rfl
      repeat (first | ((first | refine step_ops ?_ | refine step_tree ?_); (first | (refine m_mov (by conv => lhs; whnf) ?_) | (refine m_lss rfl rfl ?_) | (refine m_len_sl rfl ?_) | (refine m_idx1_sl rfl rfl ?_ ?_; (· omega)) | (refine m_ld_pti rfl (by rfl) ?_ ?_; (· first | omega | (simp; omega))))) | refine end_ops ?_ | refine seq_ops ?_ | refine AW_tree ?_ | (refine cond_t rfl ?_ ?_; (· first | rfl | assumption | (refine decide_eq_true ?_; first | assumption | omega) | (refine nt ?_; first | assumption | omega) | (simp [*]; done))) | refine skip_then ?_ | refine AW_seq ?_ | refine AW_block ?_)
      refine step_tree ?_; (apply m_call (countChoicesY_spec (k + 1 + j) k (by omega) (by omega))); (· repeat (first | exact lends_nil | (refine lends_cons ?_ ?_; (· exact lend_v))))
      repeat (refine step_tree ?_; (first | (refine m_mov (by conv => lhs; whnf) ?_) | (refine m_idx1_sl rfl rfl ?_ ?_; (· omega)) | (refine m_ld_pti rfl (by rfl) ?_ ?_; (· first | omega | (simp; omega)))))
      refine step_tree ?_
      refine m_mulw rfl rfl ?_
      refine step_tree ?_
      refine m_subw rfl rfl ?_
      repeat (first | ((first | refine step_ops ?_ | refine step_tree ?_); (first | (refine m_mov (by conv => lhs; whnf) ?_) | (refine m_add rfl rfl ?_ ?_ ?_; (· omega); (· omega)) | (refine m_idx1_sl rfl rfl ?_ ?_; (· omega)) | (apply m_st; (· rfl); (· rfl); (· rfl); (· first | omega | (simp; done) | (simp; omega)); (· rfl)))) | refine end_ops ?_ | refine AW_ops ?_ | refine end_tree ?_ | refine norm_then ?_ | refine norm_block ?_)
      refine next_round (j + 1) (by omega) (weak_st ?_ ?_ rfl rfl) (by omega)
      · (repeat' (first | exact trivial | refine And.intro ?_ ?_)) <;> (first | rfl | skip)
      · (repeat' (first | exact trivial | refine And.intro ?_ ?_)) <;> (first | rfl | skip)
        show some (true, List.set (List.map AV.i _) _ (AV.i _)) = some (true, List.map AV.i _)
        rw [g1, g2, ← List.map_set, List.set_append_right _ _ (by omega), hlk, Nat.sub_self, List.set_cons_zero]
        rfl
    · obtain rfl : j = d := by omega
      repeat (first | (refine step_ops ?_; (first | (refine m_mov (by conv => lhs; whnf) ?_) | (refine m_lss rfl rfl ?_) | (refine m_sub rfl rfl ?_ ?_ ?_; (· omega); (· omega)) | (refine m_len_sl rfl ?_))) | refine end_ops ?_ | refine seq_ops ?_ | refine AW_ops ?_ | (refine cond_f rfl ?_ ?_; (· first | rfl | assumption | (refine decide_eq_false ?_; first | assumption | omega) | (refine nf ?_; first | assumption | omega) | (simp [*]; done))) | refine AW_seq ?_ | refine norm_then ?_ | refine exit_then ?_ | refine norm_block ?_ | refine exit_round ?_ | refine AW_exit ?_ | refine exit_block ?_)
      refine next_round (j + 1) (by omega) (weak_st ?_ ?_ rfl rfl) (by omega)
      · (repeat' (first | exact trivial | refine And.intro ?_ ?_)) <;> (first | rfl | skip)
        show AV.i ((k : Int) - 1) = AV.i (((n + 1 - (j + 1) : Nat) : Int) - 1)
        exact congrArg AV.i (by omega)
      · (repeat' (first | exact trivial | refine And.intro ?_ ?_)) <;> (first | rfl | skip)
        show some (true, List.map AV.i _) = some (true, List.map AV.i (chL f n (n + 1 - (j + 1)) ++ hL (chC f n) n (j + 1)))
        rw [hL, hk, show n + 1 - (j + 1) = k by omega]
  · obtain rfl : d = n + 1 := by omega
    rw [Nat.sub_self]
    repeat (first | (refine step_ops ?_; (first | (refine m_mov (by conv => lhs; whnf) ?_) | (refine m_geq rfl rfl ?_))) | refine end_ops ?_ | refine seq_ops ?_ | (refine cond_f rfl ?_ ?_; (· first | rfl | assumption | (refine decide_eq_false ?_; first | assumption | omega) | (refine nf ?_; first | assumption | omega) | (simp [*]; done))) | refine AW_seq ?_ | refine AW_ret ?_ | refine ret_done ?_ | refine norm_then ?_ | refine exit_then ?_ | refine exit_round ?_ | refine AW_exit ?_ | refine exit_block ?_)
    exact outs_ints rfl (by simp [chL]) hll.symm
theorem hitNumbers_spec (B : List UInt8) (h : GoodBd B) : Sp Tryz.prog 83 [.agg [.i (sdB B : Nat), .rmp false (mkEs (plB B)) (plB B).length]] (newInts (hL (chC (rkN (fbB B) (sdB B)) (sdB B)) (sdB B) (sdB B + 1))) := by
  have hsd := good_sd h
  have hk := rookNew_spec B h
  have hle : ∀ k, rkN (fbB B) (sdB B) k ≤ 43046721 := fun k => rkG_le9 h (by omega) 0 k
  generalize rkN (fbB B) (sdB B) = f at *
  have hlr := rgL_len (sdB B) f
  refine spec_of Tryz.func83 rfl cc83 rfl ?_
  unfold ac83
  repeat (first | (refine step_ops ?_; (first | (refine m_nils ?_) | (refine m_box rfl ?_ ?_; (· first | rfl | (simp [cellOk, Value.oneCell']; done))) | (refine m_ldall rfl rfl ?_ ?_; (· first | rfl | (simp; done) | (simp [*]; done))))) | refine end_ops ?_ | refine seq_ops ?_)
  refine step_ops ?_
  refine m_callo hk (lends_cons (lend_aggM rfl) lends_nil) (allv_ints _) ?_
  repeat (first | (refine step_ops ?_; (first | (refine m_mov (by conv => lhs; whnf) ?_) | (refine m_len_sl rfl ?_))) | refine end_ops ?_ | refine seq_ops ?_ | refine AW_seq ?_ | refine AW_block ?_)
  refine AW_loop (α := Nat) (fun k => k ≤ sdB B + 1) (fun k => st [(1, .pt 1 0), (3, .sl 6 1 0 (sdB B + 1)), (8, .i (sdB B + 1 : Nat)), (9, .i (k : Nat))]
    [(1, (true, [.i (sdB B : Nat), .rmp false (mkEs (plB B)) (plB B).length])), (6, (true, (chL f (sdB B) k ++ (rgL (sdB B) f).drop k).map AV.i))]) (fun k => sdB B + 1 - k) 0 (by omega) (weak_st ?_ ?_ rfl rfl) ?_
  · (repeat' (first | exact trivial | refine And.intro ?_ ?_)) <;> (first | rfl | skip)
    · show AV.sl 6 1 0 (rgL (sdB B) f).length = _
      rw [hlr]
    · show AV.i ((rgL (sdB B) f).length : Nat) = _
      rw [hlr]
  · (repeat' (first | exact trivial | refine And.intro ?_ ?_)) <;> (first | rfl | skip)
  rintro k hk2
  have hlk := chL_len f (sdB B) k
  by_cases hk1 : k < sdB B + 1
  · have hM : (chL f (sdB B) k ++ (rgL (sdB B) f).drop k).length = sdB B + 1 := by
      rw [List.length_append, List.length_drop, hlr, hlk]; omega
    have g1 : (chL f (sdB B) k ++ (rgL (sdB B) f).drop k).getD k 0 = (f k : Int) := by
      rw [List.getD_eq_getElem?_getD, List.getElem?_append_right (by omega), hlk, Nat.sub_self, List.getElem?_drop, Nat.add_zero, ← List.getD_eq_getElem?_getD]
      exact rgL_get f hk1
    have hb := chC_le (f := f) (n := sdB B) (k := k) (hle k) hsd.2
    unfold chC at hb
    rw [← g1] at hb
    repeat (first | ((first | refine step_ops ?_ | refine step_tree ?_); (first | (refine m_mov (by conv => lhs; whnf) ?_) | (refine m_lss rfl rfl ?_) | (refine m_sub rfl rfl ?_ ?_ ?_; (· omega); (· omega)) | (refine m_idx1_sl rfl rfl ?_ ?_; (· omega)) | (refine m_ld_pti rfl (by rfl) ?_ ?_; (· first | omega | (simp; omega))) | (apply m_ld_pt; (· rfl); (· rfl); (· rfl)) | (refine m_fa rfl ?_))) | refine end_ops ?_ | refine seq_ops ?_ | refine AW_tree ?_ | (refine cond_t rfl ?_ ?_; (· first | rfl | assumption | (refine decide_eq_true ?_; first | assumption | omega) | (refine nt ?_; first | assumption | omega) | (simp [*]; done))) | refine skip_then ?_ | refine AW_seq ?_ | refine AW_block ?_)
    rw [show ((sdB B : Nat) : Int) - (k : Int) = ((sdB B - k : Nat) : Int) by omega]
    refine step_tree ?_; (apply m_call (factorial_spec (sdB B - k) (by omega))); (· repeat (first | exact lends_nil | (refine lends_cons ?_ ?_; (· exact lend_v))))
    repeat (first | ((first | refine step_ops ?_ | refine step_tree ?_); (first | (refine m_mov (by conv => lhs; whnf) ?_) | (refine m_add rfl rfl ?_ ?_ ?_; (· omega); (· omega)) | (refine m_mul rfl rfl ?_ ?_ ?_; (· first | omega | (simp; done)); (· first | omega | (simp; done))) | (refine m_idx1_sl rfl rfl ?_ ?_; (· omega)) | (apply m_st; (· rfl); (· rfl); (· rfl); (· first | omega | (simp; done) | (simp; omega)); (· rfl)))) | refine end_ops ?_ | refine AW_ops ?_ | refine end_tree ?_ | refine norm_then ?_ | refine norm_block ?_)
    refine next_round (k + 1) (by omega) (weak_st ?_ ?_ rfl rfl) (by omega)
    · (repeat' (first | exact trivial | refine And.intro ?_ ?_)) <;> (first | rfl | skip)
    · (repeat' (first | exact trivial | refine And.intro ?_ ?_)) <;> (first | rfl | skip)
      show some (true, List.set (List.map AV.i _) _ (AV.i _)) = some (true, List.map AV.i _)
      rw [← List.map_set, g1, List.set_append_right _ _ (by omega), hlk, Nat.sub_self]
      have e : (rgL (sdB B) f).drop k = (rgL (sdB B) f).getD k 0 :: (rgL (sdB B) f).drop (k + 1) := by
        rw [List.drop_eq_getElem_cons (by omega)]; simp [hlr, hk1]
      rw [e, List.set_cons_zero, show chL f (sdB B) (k + 1) = chL f (sdB B) k ++ [chC f (sdB B) k] by simp [chL, List.range_succ], List.append_assoc]
      rfl
  · have hke : k = sdB B + 1 := by omega
    subst hke
    rw [List.drop_eq_nil_of_le (by omega), List.append_nil]
    have hj := justSoManyY_spec f (sdB B) hsd.1 hsd.2
    have hl2 := hL_len (chC f (sdB B)) (sdB B) (sdB B + 1)
    repeat (first | (refine step_ops ?_; (first | (refine m_mov (by conv => lhs; whnf) ?_) | (refine m_lss rfl rfl ?_))) | refine end_ops ?_ | refine seq_ops ?_ | (refine cond_f rfl ?_ ?_; (· first | rfl | assumption | (refine decide_eq_false ?_; first | assumption | omega) | (refine nf ?_; first | assumption | omega) | (simp [*]; done))) | refine AW_seq ?_ | refine norm_then ?_ | refine exit_then ?_ | refine exit_round ?_ | refine AW_exit ?_ | refine exit_block ?_)
    refine step_ops ?_
    refine m_callo hj (lends_cons (lend_sli (L := chL f (sdB B) (sdB B + 1)) rfl hlk.symm) lends_nil) (allv_ints _) ?_
    repeat (first | (refine step_ops ?_; (refine m_mov (by conv => lhs; whnf) ?_)) | refine end_ops ?_ | refine AW_ret ?_ | refine ret_done ?_)
    exact outs_ints rfl rfl rfl
end Go.Proofs.YtmmcldbldbpikaaGreatDoor
namespace Go.Proofs.YtmmcldbldbpikaaGreatDoor
variable [Go.Am.CodeBlk]
open Go.Am
attribute [local irreducible] AW Outs Weak Lends Lend Sp aops atree aop1 Then Round InBlock Done
attribute [local irreducible] SpH SpX DoneH DoneX
/-- The numbers of hits of a text. -/
def hitL (B : List UInt8) : List Int := hL (chC (rkN (fbB B) (sdB B)) (sdB B)) (sdB B) (sdB B + 1)
def hitB (B : List UInt8) : List Int := if GoodBd B then hitL B else []
def hitR (B : List UInt8) : AV := .tup [newInts (hitB B), .b (decide (GoodBd B))]
theorem implHitNumbers_spec (B : List UInt8) (hB : B.length ≤ 1048576) : Sp Tryz.prog 63 [str B] (hitR B) := by
  have hr := readBoard_spec B hB
  unfold bdR bdV at hr
  unfold hitR hitB
  refine spec_of Tryz.func63 rfl cc63 rfl ?_
  unfold ac63
  by_cases h : GoodBd B
  · rw [if_pos h] at hr
    have hk := hitNumbers_spec B h
    change Sp _ _ _ (newInts (hitL B)) at hk
    rw [if_pos h]
    repeat (first | (refine step_ops ?_; (first | (refine m_mov (by conv => lhs; whnf) ?_) | (refine m_nils ?_))) | refine end_ops ?_ | refine seq_ops ?_)
    (refine step_ops ?_); (apply m_call (hr)); (· repeat (first | exact lends_nil | (refine lends_cons ?_ ?_; (· exact lend_v))))
    repeat (first | (refine step_ops ?_; (first | (refine m_mov (by conv => lhs; whnf) ?_) | (refine m_not rfl ?_) | (refine m_ext rfl rfl ?_) | (refine m_alloc ?_) | (refine m_ldall rfl rfl ?_ ?_; (· first | rfl | (simp; done) | (simp [*]; done))) | (refine m_stall rfl rfl rfl ?_ ?_ ?_ ?_; (· first | rfl | (simp [*]; done)); (· first | rfl | (simp [*]; done)); (· first | rfl | (simp [cellOk, Value.oneCell']; done))))) | refine end_ops ?_ | refine seq_ops ?_ | (refine cond_f rfl ?_ ?_; (· first | rfl | assumption | (refine decide_eq_false ?_; first | assumption | omega) | (refine nf ?_; first | assumption | omega) | (simp [*]; done))) | refine skip_then ?_ | refine AW_seq ?_)
    refine step_ops ?_
    refine m_callo hk (lends_cons (lend_aggM rfl) lends_nil) (allv_ints _) ?_
    repeat (first | (refine step_ops ?_; (refine m_mov (by conv => lhs; whnf) ?_)) | refine end_ops ?_ | refine AW_ret ?_ | refine ret_done ?_)
    exact outs_tup2 (outs_ints rfl rfl rfl) (outs_b (by simp [h]))
  · rw [if_neg h] at hr
    rw [if_neg h]
    repeat (first | (refine step_ops ?_; (first | (refine m_mov (by conv => lhs; whnf) ?_) | (refine m_nils ?_))) | refine end_ops ?_ | refine seq_ops ?_)
    (refine step_ops ?_); (apply m_call (hr)); (· repeat (first | exact lends_nil | (refine lends_cons ?_ ?_; (· exact lend_v))))
    repeat (first | (refine step_ops ?_; (first | (refine m_mov (by conv => lhs; whnf) ?_) | (refine m_not rfl ?_) | (refine m_nils ?_) | (refine m_ext rfl rfl ?_) | (refine m_alloc ?_) | (refine m_stall rfl rfl rfl ?_ ?_ ?_ ?_; (· first | rfl | (simp [*]; done)); (· first | rfl | (simp [*]; done)); (· first | rfl | (simp [cellOk, Value.oneCell']; done))))) | refine end_ops ?_ | refine seq_ops ?_ | (refine cond_t rfl ?_ ?_; (· first | rfl | assumption | (refine decide_eq_true ?_; first | assumption | omega) | (refine nt ?_; first | assumption | omega) | (simp [*]; done))) | refine AW_seq ?_ | refine AW_ret ?_ | refine ret_done ?_ | refine ret_then ?_)
    exact outs_tup2 (outs_ints rfl rfl rfl) (outs_b (by simp [h]))
end Go.Proofs.YtmmcldbldbpikaaGreatDoor
namespace Go.Proofs.YtmmcldbldbpikaaGreatDoor
variable [Go.Am.CodeBlk]
open Go.Am
attribute [local irreducible] AW Outs Weak Lends Lend Sp aops atree aop1 Then Round InBlock Done
theorem boardText_spec {f : FuncId} {fl : List AV} {n : Nat} {fb : Nat → Nat → Bool} (A : AsksP Tryz.prog f fl n fb) (hn : n ≤ 16) :
    Sp Tryz.prog 80 [.i n, .fn f fl 0] (str (bdT fb n n)) := by
  refine spec_of Tryz.func80 rfl cc80 rfl ?_
  unfold ac80
  repeat (first | (refine step_ops ?_; (first | (refine m_mov (by conv => lhs; whnf) ?_) | (refine m_nils ?_))) | refine end_ops ?_ | refine seq_ops ?_ | refine AW_seq ?_ | refine AW_block ?_)
  refine AW_loop (α := Nat) (fun k => k ≤ n) (fun k => st [(0, .i n), (1, .fn f fl 0), (5, .sl 5 1 0 (bdT fb n k).length), (8, .i n), (9, .i k)] [(5, (true, byteVs (bdT fb n k)))]) (fun k => n - k) 0 (by omega) (weak_st ?_ ?_ ?_ rfl) ?_
  · (repeat' (first | exact trivial | refine And.intro ?_ ?_)) <;> (first | rfl | skip)
    all_goals (simp (disch := decide) [tm_put_ne', tm_put_none, tm_mem, tm_kill, tm_mv, tm_st, tm_en0, tm_en1, tm_en2, tm_en3, tm_en4, Am.look, kill_fn A.nokill, mv_fn A.nokill])
  · exact ⟨rfl, trivial⟩
  · simp [refsT, refsV, A.norefs, Am.look]
  intro k hk
  have hbl := bdT_len fb n k
  have hbv : (byteVs (bdT fb n k)).length = (bdT fb n k).length := by simp [byteVs]
  have hsz : k * (n + 1) ≤ 16 * 17 := Nat.mul_le_mul (by omega) (by omega)
  by_cases hc : k < n
  · have hpre : ∃ pre, pre = bdT fb n k ++ (if 0 < k then [47] else []) := ⟨_, rfl⟩
    obtain ⟨pre, hpr⟩ := hpre
    have hplen : pre.length ≤ 16 * 17 + 1 := by
      rw [hpr, List.length_append]
      have : (if 0 < k then [(47 : UInt8)] else []).length ≤ 1 := by split <;> simp
      omega
    have hpb : (byteVs pre).length = pre.length := by simp [byteVs]
    rcases Nat.eq_zero_or_pos k with hk0 | hk0
    case' inl =>
      rw [if_neg (by omega), List.append_nil] at hpr
      repeat (first | (refine step_ops ?_; (first | (refine m_mov (by conv => lhs; whnf) ?_) | (refine m_lss rfl rfl ?_) | (refine m_gtr rfl rfl ?_))) | refine end_ops ?_ | refine seq_ops ?_ | (refine cond_t rfl ?_ ?_; (· first | rfl | assumption | (refine decide_eq_true ?_; first | assumption | omega) | (refine nt ?_; first | assumption | omega) | (simp [*]; done))) | (refine cond_f rfl ?_ ?_; (· first | rfl | assumption | (refine decide_eq_false ?_; first | assumption | omega) | (refine nf ?_; first | assumption | omega) | (simp [*]; done))) | refine skip_then ?_ | refine AW_seq ?_ | refine AW_block ?_)
      refine AW_weak (weak_st (l := [(0, .i n), (1, .fn f fl 0), (5, .sl 5 1 0 pre.length), (6, .i k), (8, .i n), (9, .i k), (17, .i n), (18, .i (0 : Nat))]) (h := [(5, (true, byteVs pre))]) ?_ ?_ ?_ rfl) ?_
      · rw [hpr]
        (repeat' (first | exact trivial | refine And.intro ?_ ?_)) <;> (first | rfl | skip)
        all_goals (simp (disch := decide) [tm_put_ne', tm_put_none, tm_mem, tm_kill, tm_mv, tm_st, tm_en0, tm_en1, tm_en2, tm_en3, tm_en4, Am.look, kill_fn A.nokill, mv_fn A.nokill])
      · rw [hpr]
        exact ⟨rfl, trivial⟩
      · simp [refsT, refsV, A.norefs, Am.look]
    case' inr =>
      rw [if_pos hk0] at hpr
      repeat (first | (refine step_ops ?_; (first | (refine m_mov (by conv => lhs; whnf) ?_) | (refine m_lss rfl rfl ?_) | (refine m_gtr rfl rfl ?_) | (refine m_bsl1 rfl rfl ?_) | (refine m_app1 rfl (by decide) rfl (by first | (simp; done) | (simp [*]; done) | (simp; omega)) rfl rfl rfl ?_ (by decide) ?_; (· first | omega | (simp; omega))))) | refine end_ops ?_ | refine seq_ops ?_ | refine AW_ops ?_ | (refine cond_t rfl ?_ ?_; (· first | rfl | assumption | (refine decide_eq_true ?_; first | assumption | omega) | (refine nt ?_; first | assumption | omega) | (simp [*]; done))) | refine skip_then ?_ | refine AW_seq ?_ | refine norm_then ?_ | refine AW_block ?_)
      refine AW_weak (Weak.trans (weak_move (r := 16) (q := 5) rfl (by decide) (by decide)) (weak_st (l := [(0, .i n), (1, .fn f fl 0), (5, .sl 5 1 0 pre.length), (6, .i k), (8, .i n), (9, .i k), (17, .i n), (18, .i (0 : Nat))]) (h := [(5, (true, byteVs pre))]) ?_ ?_ ?_ rfl)) ?_
      · rw [show pre.length = (bdT fb n k).length + 1 by rw [hpr, List.length_append]; rfl]
        (repeat' (first | exact trivial | refine And.intro ?_ ?_)) <;> (first | rfl | skip)
        all_goals (simp (disch := decide) [tm_put_ne', tm_put_none, tm_mem, tm_kill, tm_mv, tm_st, tm_en0, tm_en1, tm_en2, tm_en3, tm_en4, Am.look, kill_fn A.nokill, mv_fn A.nokill])
      · rw [hpr, byteVs_snoc]
        exact ⟨rfl, trivial⟩
      · simp [refsT, refsV, A.norefs, Am.look]
    all_goals
      refine AW_loop (α := Nat) (fun j => j ≤ n) (fun j => st [(0, .i n), (1, .fn f fl 0), (5, .sl 5 1 0 (pre ++ rowT fb k j).length), (6, .i k), (8, .i n), (9, .i k), (17, .i n), (18, .i j)] [(5, (true, byteVs (pre ++ rowT fb k j)))]) (fun j => n - j) 0 (by omega) (weak_st ?_ ?_ ?_ rfl) ?_
      · rw [show pre ++ rowT fb k 0 = pre by simp [rowT]]
        (repeat' (first | exact trivial | refine And.intro ?_ ?_)) <;> (first | rfl | skip)
        all_goals (simp (disch := decide) [tm_put_ne', tm_put_none, tm_mem, tm_kill, tm_mv, tm_st, tm_en0, tm_en1, tm_en2, tm_en3, tm_en4, Am.look, kill_fn A.nokill, mv_fn A.nokill])
      · rw [show pre ++ rowT fb k 0 = pre by simp [rowT]]
        exact ⟨rfl, trivial⟩
      · simp [refsT, refsV, A.norefs, Am.look]
      intro j hj
      have hrl : (pre ++ rowT fb k j).length = pre.length + j := by rw [List.length_append, rowT_len]
      have hrv : (byteVs (pre ++ rowT fb k j)).length = pre.length + (rowT fb k j).length := by simp [byteVs]
      have hl5 : (pre ++ rowT fb k (j + 1)).length = (pre ++ rowT fb k j).length + 1 := by rw [rowT_snoc, ← List.append_assoc, List.length_append]; rfl
      have hv5 : byteVs (pre ++ rowT fb k (j + 1)) = byteVs (pre ++ rowT fb k j) ++ [.v (.int .u8 (sgn (fb k j)).toNat)] := by rw [rowT_snoc, ← List.append_assoc, byteVs_snoc]
      by_cases hcj : j < n
      · repeat (first | (refine step_ops ?_; (first | (refine m_mov (by conv => lhs; whnf) ?_) | (refine m_lss rfl rfl ?_) | (refine m_bld_2 (by conv => lhs; whnf) (by conv => lhs; whnf) (by decide)  (by decide) (by rfl) (by rfl) ?_))) | refine end_ops ?_ | refine seq_ops ?_ | (refine cond_t rfl ?_ ?_; (· first | rfl | assumption | (refine decide_eq_true ?_; first | assumption | omega) | (refine nt ?_; first | assumption | omega) | (simp [*]; done))) | refine skip_then ?_ | refine AW_seq ?_ | refine AW_block ?_)
        refine step_ops ?_
        refine m_callf rfl A.call (A.spec k j hc hcj) ?_ ?_
        · exact lends_cons (lend_agg rfl) (lends_self A.bears _)
        by_cases hb : fb k j = true
        · repeat (first | (refine step_ops ?_; (first | (refine m_mov (by conv => lhs; whnf) ?_) | (refine m_add rfl rfl ?_ ?_ ?_; (· omega); (· omega)) | (refine m_bsl1 rfl rfl ?_) | (refine m_app1 rfl (by decide) rfl (by first | (simp; done) | (simp [*]; done) | (simp; omega)) rfl rfl rfl ?_ (by decide) ?_; (· first | omega | (simp; omega))))) | refine end_ops ?_ | refine AW_ops ?_ | (refine cond_t rfl ?_ ?_; (· first | rfl | assumption | (refine decide_eq_true ?_; first | assumption | omega) | (refine nt ?_; first | assumption | omega) | (simp [*]; done))) | refine norm_then ?_ | refine norm_block ?_)
          refine next_round (j + 1) (by omega) (Weak.trans (weak_move (r := 28) (q := 5) rfl (by decide) (by decide)) (weak_st ?_ ?_ ?_ rfl)) ?_
          · rw [hl5]
            (repeat' (first | exact trivial | refine And.intro ?_ ?_)) <;> (first | rfl | skip)
            all_goals (simp (disch := decide) [tm_put_ne', tm_put_none, tm_mem, tm_kill, tm_mv, tm_st, tm_en0, tm_en1, tm_en2, tm_en3, tm_en4, Am.look, kill_fn A.nokill, mv_fn A.nokill])
          · rw [hv5, hb]
            exact ⟨rfl, trivial⟩
          · simp [refsT, refsV, A.norefs, Am.look]
          · omega
        · have hb : fb k j = false := by simpa using hb
          repeat (first | (refine step_ops ?_; (first | (refine m_mov (by conv => lhs; whnf) ?_) | (refine m_add rfl rfl ?_ ?_ ?_; (· omega); (· omega)) | (refine m_bsl1 rfl rfl ?_) | (refine m_app1 rfl (by decide) rfl (by first | (simp; done) | (simp [*]; done) | (simp; omega)) rfl rfl rfl ?_ (by decide) ?_; (· first | omega | (simp; omega))))) | refine end_ops ?_ | refine AW_ops ?_ | (refine cond_f rfl ?_ ?_; (· first | rfl | assumption | (refine decide_eq_false ?_; first | assumption | omega) | (refine nf ?_; first | assumption | omega) | (simp [*]; done))) | refine norm_then ?_ | refine norm_block ?_)
          refine next_round (j + 1) (by omega) (Weak.trans (weak_move (r := 31) (q := 5) rfl (by decide) (by decide)) (weak_st ?_ ?_ ?_ rfl)) ?_
          · rw [hl5]
            (repeat' (first | exact trivial | refine And.intro ?_ ?_)) <;> (first | rfl | skip)
            all_goals (simp (disch := decide) [tm_put_ne', tm_put_none, tm_mem, tm_kill, tm_mv, tm_st, tm_en0, tm_en1, tm_en2, tm_en3, tm_en4, Am.look, kill_fn A.nokill, mv_fn A.nokill])
          · rw [hv5, hb]
            exact ⟨rfl, trivial⟩
          · simp [refsT, refsV, A.norefs, Am.look]
          · omega
      · obtain rfl : j = n := by omega
        have e : pre ++ rowT fb k j = bdT fb j (k + 1) := by
          simp only [bdT]
          rw [hpr]
          try rw [if_pos hk0]
          try rw [if_neg (by omega), List.append_nil]
        rw [e]
        repeat (first | (refine step_ops ?_; (first | (refine m_mov (by conv => lhs; whnf) ?_) | (refine m_lss rfl rfl ?_) | (refine m_add rfl rfl ?_ ?_ ?_; (· omega); (· omega)))) | refine end_ops ?_ | refine seq_ops ?_ | refine AW_ops ?_ | (refine cond_f rfl ?_ ?_; (· first | rfl | assumption | (refine decide_eq_false ?_; first | assumption | omega) | (refine nf ?_; first | assumption | omega) | (simp [*]; done))) | refine AW_seq ?_ | refine norm_then ?_ | refine exit_then ?_ | refine norm_block ?_ | refine exit_round ?_ | refine AW_exit ?_ | refine exit_block ?_)
        refine next_round (k + 1) (by omega) (weak_st ?_ ?_ ?_ rfl) ?_
        · (repeat' (first | exact trivial | refine And.intro ?_ ?_)) <;> (first | rfl | skip)
          all_goals (simp (disch := decide) [tm_put_ne', tm_put_none, tm_mem, tm_kill, tm_mv, tm_st, tm_en0, tm_en1, tm_en2, tm_en3, tm_en4, Am.look, kill_fn A.nokill, mv_fn A.nokill])
        · exact ⟨rfl, trivial⟩
        · simp [refsT, refsV, A.norefs, Am.look]
        · omega
  · obtain rfl : k = n := by omega
    repeat (first | (refine step_ops ?_; (first | (refine m_mov (by conv => lhs; whnf) ?_) | (refine m_lss rfl rfl ?_) | (refine m_bts_sl rfl rfl ?_ ?_; (· first | rfl | omega | (simp; done))))) | refine end_ops ?_ | refine seq_ops ?_ | (refine cond_f rfl ?_ ?_; (· first | rfl | assumption | (refine decide_eq_false ?_; first | assumption | omega) | (refine nf ?_; first | assumption | omega) | (simp [*]; done))) | refine AW_seq ?_ | refine AW_ret ?_ | refine ret_done ?_ | refine norm_then ?_ | refine exit_then ?_ | refine exit_round ?_ | refine AW_exit ?_ | refine exit_block ?_)
    exact outs_v
end Go.Proofs.YtmmcldbldbpikaaGreatDoor
namespace Go.Proofs.YtmmcldbldbpikaaGreatDoor
variable [Go.Am.CodeBlk]
open Go.Am
attribute [local irreducible] AW Outs Weak Lends Lend Sp aops atree aop1 Then Round InBlock Done
attribute [local irreducible] SpH DoneH
/-- Places of couples. -/
def cplPs (m k : Nat) : List (List Int) := (List.range k).flatMap fun i : Nat => [[((i : Nat) : Int), ((i : Nat) : Int)], [((i : Nat) : Int), (((i + 1) % m : Nat) : Int)]]
/-- Is a place one of a couple? -/
def cplAt (m i j : Nat) : Bool := decide ((j : Int) = (i : Int)) || decide ((j : Int) = (((i + 1) % m : Nat) : Int))
theorem cpl_in (n i j : Nat) (hi : i < n) (hj : j < n) : inB (cplPs n n) i j = cplAt n i j := by
  rw [Bool.eq_iff_iff]
  simp only [inB, cplPs, cplAt, List.any_flatMap, List.any_eq_true, List.mem_range, Bool.and_eq_true, Bool.or_eq_true, decide_eq_true_eq]
  constructor
  · rintro ⟨a, _, p, hp, h1, h2⟩
    simp only [List.mem_cons, List.not_mem_nil, or_false] at hp
    rcases hp with rfl | rfl
    · simp at h1 h2
      left; omega
    · have h1' : a = i := by simp at h1; omega
      subst h1'
      right
      exact h2.symm
  · rintro (h | h)
    · exact ⟨i, hi, [(i : Int), (i : Int)], by simp, rfl, h.symm⟩
    · exact ⟨i, hi, [(i : Int), (((i + 1) % n : Nat) : Int)], by simp, rfl, h.symm⟩
/-- What CoupleBoard tells. -/
def cplBd (n : Int) : List UInt8 := if 1 ≤ n ∧ n ≤ 8 then bdT (inB (cplPs n.toNat n.toNat)) n.toNat n.toNat else []
theorem coupleFn_spec (n i j : Nat) (hn : n ≤ 8) (hi : i < n) : Sp Tryz.prog 81 [.agg [.i (i : Nat), .i (j : Nat)], .rp [.i (n : Nat)]] (.b (cplAt n i j)) := by
  have hrem : ((i : Int) + 1) % (n : Int) = (((i + 1) % n : Nat) : Int) := rfl
  refine spec_of Tryz.func81 rfl cc81 rfl ?_
  unfold ac81
  by_cases h1 : (j : Int) = (i : Int)
  · repeat (first | ((first | refine step_ops ?_ | refine step_tree ?_); (first | (first | (refine m_mov (by conv => lhs; whnf) ?_) | (refine m_eql rfl rfl ?_) | (apply m_ld_pt; (· rfl); (· rfl); (· rfl)) | (refine m_pick_t rfl ?_ (by conv => lhs; whnf) ?_; (· first | rfl | assumption | (refine decide_eq_true ?_; first | assumption | omega) | (refine nt ?_; first | assumption | omega) | (simp [*]; done))) | (refine m_fa rfl ?_) | (refine m_box rfl ?_ ?_; (· first | rfl | (simp [cellOk, Value.oneCell']; done)))) | (refine g_noF rfl ?_ ?_; (· first | rfl | assumption | (refine decide_eq_true ?_; first | assumption | omega) | (refine nt ?_; first | assumption | omega) | (simp [*]; done))))) | refine end_ops ?_ | refine seq_ops ?_ | refine end_tree ?_ | refine seq_tree ?_ | refine AW_ret ?_ | refine ret_done ?_)
    exact outs_b (by simp [cplAt, h1])
  · repeat (first | ((first | refine step_ops ?_ | refine step_tree ?_); ((try (refine g_yes rfl ?_ ?_; (· first | rfl | assumption | (refine decide_eq_true ?_; first | assumption | omega) | (refine nt ?_; first | assumption | omega) | (simp [*]; done) | (refine decide_eq_false ?_; first | assumption | omega) | (refine nf ?_; first | assumption | omega)))); (first | (refine m_mov (by conv => lhs; whnf) ?_) | (refine m_eql rfl rfl ?_) | (refine m_add rfl rfl ?_ ?_ ?_; (· omega); (· omega)) | (apply m_ld_rp; (· rfl); (· rfl)) | (apply m_ld_pt; (· rfl); (· rfl); (· rfl)) | (refine m_pick_f rfl ?_ (by conv => lhs; whnf) ?_; (· first | rfl | assumption | (refine decide_eq_false ?_; first | assumption | omega) | (refine nf ?_; first | assumption | omega) | (simp [*]; done))) | (refine m_fa rfl ?_) | (refine m_box rfl ?_ ?_; (· first | rfl | (simp [cellOk, Value.oneCell']; done))) | (refine m_rem rfl rfl ?_ ?_ ?_; (· omega); (· omega))))) | refine end_ops ?_ | refine seq_ops ?_ | refine end_tree ?_ | refine seq_tree ?_ | refine AW_ret ?_ | refine ret_done ?_)
    rw [hrem]
    skip
    exact outs_b (by simp [cplAt, h1])
theorem couple_asks (n : Nat) (hn : n ≤ 8) : AsksP Tryz.prog 81 [.rp [.i (n : Nat)]] n (cplAt n) where
  call := ⟨_, Tryz.func81, by rfl, by rfl⟩
  bears := bears_rp rfl
  norefs := fun _ => rfl
  nokill := fun _ => rfl
  spec := fun i j hi _ => coupleFn_spec n i j hn hi
theorem implCoupleBoard_spec (n : Int) : Sp Tryz.prog 62 [.i n] (.tup [str (cplBd n), .b (decide (1 ≤ n ∧ n ≤ 8))]) := by
  refine spec_of Tryz.func62 rfl cc62 rfl ?_
  unfold ac62
  by_cases h : 1 ≤ n ∧ n ≤ 8
  · obtain ⟨m, rfl⟩ := Int.eq_ofNat_of_zero_le (show 0 ≤ n by omega)
    have e : cplBd (m : Int) = bdT (cplAt m) m m := by
      unfold cplBd
      rw [if_pos h, Int.toNat_natCast]
      exact bdT_congr (fun i j hi hj => cpl_in m i j hi hj) (Nat.le_refl _)
    have hs := boardText_spec (couple_asks m (by omega)) (by omega)
    rw [e]
    repeat (first | (refine step_ops ?_; (first | (refine m_mov (by conv => lhs; whnf) ?_) | (apply m_ld_pt; (· rfl); (· rfl); (· rfl)) | (refine m_box1 rfl rfl ?_))) | refine end_ops ?_ | refine seq_ops ?_ | refine AW_seq ?_)
    (refine step_ops ?_); (apply m_call (isSide_spec _)); (· repeat (first | exact lends_nil | (refine lends_cons ?_ ?_; (· exact lend_v))))
    repeat (first | (refine step_ops ?_; (first | (refine m_not rfl ?_) | (apply m_ld_pt; (· rfl); (· rfl); (· rfl)) | (refine m_mkf ?_))) | refine end_ops ?_ | refine seq_ops ?_ | (refine cond_f rfl ?_ ?_; (· first | rfl | assumption | (refine decide_eq_false ?_; first | assumption | omega) | (refine nf ?_; first | assumption | omega) | (simp [*]; done))) | refine skip_then ?_)
    refine step_ops ?_
    refine m_call hs ?_ ?_
    · exact lends_cons lend_v (lends_cons (lend_fn (lends_cons (lend_pt (cs := [.i (m : Nat)]) rfl rfl) lends_nil)) lends_nil)
    repeat (first | (refine step_ops ?_; (refine m_mov (by conv => lhs; whnf) ?_)) | refine end_ops ?_ | refine AW_ret ?_ | refine ret_done ?_)
    exact outs_tup2 outs_v (outs_b (by simp [h]))
  · have e : cplBd n = [] := if_neg h
    rw [e]
    repeat (first | (refine step_ops ?_; (first | (refine m_mov (by conv => lhs; whnf) ?_) | (apply m_ld_pt; (· rfl); (· rfl); (· rfl)) | (refine m_box1 rfl rfl ?_))) | refine end_ops ?_ | refine seq_ops ?_ | refine AW_seq ?_)
    (refine step_ops ?_); (apply m_call (isSide_spec _)); (· repeat (first | exact lends_nil | (refine lends_cons ?_ ?_; (· exact lend_v))))
    repeat (first | (refine step_ops ?_; (first | (refine m_mov (by conv => lhs; whnf) ?_) | (refine m_not rfl ?_))) | refine end_ops ?_ | refine seq_ops ?_ | (refine cond_t rfl ?_ ?_; (· first | rfl | assumption | (refine decide_eq_true ?_; first | assumption | omega) | (refine nt ?_; first | assumption | omega) | (simp [*]; done))) | refine AW_ret ?_ | refine ret_done ?_ | refine ret_then ?_)
    exact outs_tup2 outs_v (outs_b (by simp [h]))
end Go.Proofs.YtmmcldbldbpikaaGreatDoor
namespace Go.Am
variable [Go.Am.CodeBlk]
variable {P : Program} {own : Bool} {s : AS} {K : AS → Prop} {d : Option Nat}
theorem m_shl {x y : Opd} {a : Int} {k : Nat} (hx : s.ev x = .i a) (hy : s.ev y = .i (k : Nat)) (hk : k < 64) (h1 : -9223372036854775808 ≤ a * 2 ^ k) (h2 : a * 2 ^ k ≤ 9223372036854775807) (kk : K (s.put d (.i (a * 2 ^ k)))) : aop1 P own ⟨d, .bin .shl x y, none⟩ s K := by
  refine ⟨_, _, _, hx, hy, ?_, kk⟩
  have h3 : ¬ ((k : Nat) : Int) < 0 := by omega
  have h4 : min ((k : Nat) : Int).toNat IntKind.i64.bits = k := by show min _ 64 = k; omega
  show (if ((k : Nat) : Int) < 0 then none else some (Value.int .i64 (IntKind.i64.wrap (a * 2 ^ (min ((k : Nat) : Int).toNat IntKind.i64.bits))))) = _
  rw [if_neg h3, h4, show IntKind.i64.wrap (a * 2 ^ k) = a * 2 ^ k from by rw [IntKind.wrap_i64]; omega]
theorem m_neg {x : Opd} {a : Int} (hx : s.ev x = .i a) (h1 : -9223372036854775807 ≤ a) (h2 : a ≤ 9223372036854775807) (kk : K (s.put d (.i (0 - a)))) : aop1 P own ⟨d, .neg x, none⟩ s K := by
  refine ⟨_, _, hx, ?_⟩
  rw [show IntKind.i64.wrap (0 - a) = 0 - a from by rw [IntKind.wrap_i64]; omega]
  exact kk
theorem fac14_le : ∀ n < 15, 1 ≤ fac n ∧ fac n ≤ 87178291200 := by decide +kernel
/-- In how many ways k of n are chosen: by division; behind j steps of the other way. -/
def binC (n k : Nat) : Int := fac n / (fac k * fac (n - k))
def chx (n k : Nat) : Nat → Int
  | 0 => 1
  | j + 1 => chx n k j * ((n : Int) - k + ((j : Int) + 1)) / ((j : Int) + 1)
theorem chx_le : ∀ n < 8, ∀ k < n + 1, ∀ j < k + 1, (0 ≤ chx n k j ∧ chx n k j ≤ 1000) ∧ 0 ≤ chx n k j * ((n : Int) - k + ((j : Int) + 1)) ∧ chx n k j * ((n : Int) - k + ((j : Int) + 1)) ≤ 100000 := by decide +kernel
theorem bin_le : ∀ n < 8, ∀ k < n + 1, (1 ≤ fac k * fac (n - k) ∧ fac k * fac (n - k) ≤ 5040) ∧ (1 ≤ fac n ∧ fac n ≤ 5040) ∧ 0 ≤ binC n k ∧ binC n k ≤ 1000 := by decide +kernel
/-- In how many ways couples are chosen to be together, for each number of them; orders tells in how many ways so many can sit. -/
def chosT (orders : Nat → Int) (c k : Nat) : Int := binC c k * 2 ^ k * orders (2 * c - k)
def chosTo (orders : Nat → Int) (c k : Nat) : List Int := ((List.range k).map fun i => chosT orders c i) ++ List.replicate (c + 1 - k) 0
def chosL (orders : Nat → Int) (c : Nat) : List Int := (List.range (c + 1)).map fun i => chosT orders c i
theorem chosTo_len (orders : Nat → Int) (c k : Nat) (h : k ≤ c + 1) : (chosTo orders c k).length = c + 1 := by simp [chosTo]; omega
theorem chosTo_set (orders : Nat → Int) (c k : Nat) (h : k < c + 1) : (chosTo orders c k).set k (chosT orders c k) = chosTo orders c (k + 1) := by
  unfold chosTo
  have e : c + 1 - k = (c + 1 - (k + 1)) + 1 := by omega
  rw [e, List.replicate_succ, List.set_append_right _ _ (by simp)]
  simp [List.range_succ]
theorem chosTo_all (orders : Nat → Int) (c : Nat) : chosTo orders c (c + 1) = chosL orders c := by simp [chosTo, chosL]
theorem chosL_len (orders : Nat → Int) (c : Nat) : (chosL orders c).length = c + 1 := by simp [chosL]
/-- Those that have just so many, out of those that are chosen: row k behind j steps; d rows from the last one on. -/
def jRow (w : List Int) (k : Nat) : Nat → List Int
  | 0 => w
  | j + 1 => (jRow w k j).set k ((jRow w k j).getD k 0 - binC (k + 1 + j) k * (jRow w k j).getD (k + 1 + j) 0)
def jTo (w : List Int) : Nat → List Int
  | 0 => w
  | d + 1 => jRow (jTo w d) (w.length - 1 - d) d
theorem jRow_len (w : List Int) (k j : Nat) : (jRow w k j).length = w.length := by
  induction j with
  | zero => rfl
  | succ j ih => rw [jRow, List.length_set, ih]
theorem jTo_len (w : List Int) (d : Nat) : (jTo w d).length = w.length := by
  induction d with
  | zero => rfl
  | succ d ih => rw [jTo, jRow_len, ih]
/-- Nothing becomes too large on the way. -/
def JOk (w : List Int) : Prop := ∀ d < w.length, ∀ j < d, (-1000000000000000 ≤ (jRow (jTo w d) (w.length - 1 - d) j).getD (w.length - 1 - d) 0 ∧ (jRow (jTo w d) (w.length - 1 - d) j).getD (w.length - 1 - d) 0 ≤ 1000000000000000) ∧
  -1000000000000000 ≤ binC (w.length - 1 - d + 1 + j) (w.length - 1 - d) * (jRow (jTo w d) (w.length - 1 - d) j).getD (w.length - 1 - d + 1 + j) 0 ∧ binC (w.length - 1 - d + 1 + j) (w.length - 1 - d) * (jRow (jTo w d) (w.length - 1 - d) j).getD (w.length - 1 - d + 1 + j) 0 ≤ 1000000000000000
instance (w : List Int) : Decidable (JOk w) := inferInstanceAs (Decidable (∀ d < w.length, ∀ j < d, (_ ∧ _) ∧ _ ∧ _))
/-- The specification's sum, with signs in turn. -/
def exPart (told : List Int) (many k : Nat) : Int := if (k - many) % 2 = 1 then 0 - told.getD k 0 * chx k many many else told.getD k 0 * chx k many many
def exSum (told : List Int) (many : Nat) : Nat → Int
  | 0 => 0
  | j + 1 => exSum told many j + exPart told many (many + j)
def exactS (told : List Int) (many : Nat) : Int := exSum told many (told.length - many)
def ExOk (told : List Int) (many : Nat) : Prop := ∀ j < told.length - many, (-1000000000000000 ≤ exSum told many j ∧ exSum told many j ≤ 1000000000000000) ∧ -1000000000000000 ≤ told.getD (many + j) 0 * chx (many + j) many many ∧ told.getD (many + j) 0 * chx (many + j) many many ≤ 1000000000000000
instance (told : List Int) (many : Nat) : Decidable (ExOk told many) := inferInstanceAs (Decidable (∀ j < told.length - many, (_ ∧ _) ∧ _ ∧ _))
def facM (m : Nat) : Int := fac (m - 1)
/-- What the code counts around, and in a row. -/
def roundL (c : Nat) : List Int := if c = 1 then [0, 1] else jTo (chosL facM c) (c + 1)
def rowL (c : Nat) : List Int := jTo (chosL fac c) (c + 1)
/-- What the specification sums. -/
def toldT (orders : Nat → Int) (c k : Nat) : Int := chx c k k * 2 ^ k * orders (2 * c - k)
def roundS (c k : Nat) : List Int := (List.range k).map fun i => if c = 1 then 1 else toldT facM c i
def rowS (c k : Nat) : List Int := (List.range k).map fun i => toldT fac c i
theorem roundS_snoc (c k : Nat) : roundS c (k + 1) = roundS c k ++ [if c = 1 then 1 else toldT facM c k] := by simp [roundS, List.range_succ]
theorem rowS_snoc (c k : Nat) : rowS c (k + 1) = rowS c k ++ [toldT fac c k] := by simp [rowS, List.range_succ]
theorem roundS_len (c k : Nat) : (roundS c k).length = k := by simp [roundS]
theorem rowS_len (c k : Nat) : (rowS c k).length = k := by simp [rowS]
theorem jok_round : ∀ c < 8, JOk (chosL facM c) := by decide +kernel
theorem jok_row : ∀ c < 8, JOk (chosL fac c) := by decide +kernel
theorem exok_round : ∀ c < 8, ∀ t < c + 1, ExOk (roundS c (c + 1)) t := by decide +kernel
theorem exok_row : ∀ c < 8, ∀ t < c + 1, ExOk (rowS c (c + 1)) t := by decide +kernel
theorem chos_le : ∀ c < 8, ∀ k < c + 1, (0 ≤ binC c k * 2 ^ k ∧ binC c k * 2 ^ k ≤ 100000) ∧ (0 ≤ chosT fac c k ∧ chosT fac c k ≤ 1000000000000000) ∧ 0 ≤ chosT facM c k ∧ chosT facM c k ≤ 1000000000000000 := by decide +kernel
theorem told_le : ∀ c < 8, ∀ k < c + 1, (0 ≤ chx c k k ∧ chx c k k ≤ 1000) ∧ (0 ≤ chx c k k * 2 ^ k ∧ chx c k k * 2 ^ k ≤ 100000) ∧ (0 ≤ toldT fac c k ∧ toldT fac c k ≤ 1000000000000000) ∧ 0 ≤ toldT facM c k ∧ toldT facM c k ≤ 1000000000000000 := by decide +kernel
/-- Both count alike. -/
theorem round_same : ∀ c < 8, 1 ≤ c → ∀ t < c + 1, (roundL c).getD t 0 = exactS (roundS c (c + 1)) t := by decide +kernel
theorem row_same : ∀ c < 8, 1 ≤ c → ∀ t < c + 1, (rowL c).getD t 0 = exactS (rowS c (c + 1)) t := by decide +kernel
theorem roundL_len : ∀ c < 8, 1 ≤ c → (roundL c).length = c + 1 := by decide +kernel
end Go.Am
namespace Go.Proofs.YtmmcldbldbpikaaGreatDoor
variable [Go.Am.CodeBlk]
open Go.Am
attribute [local irreducible] AW Outs Weak Lends Lend Sp aops atree aop1 Then Round InBlock Done
theorem factorial14_spec (n : Nat) (h : n ≤ 14) : Sp Tryz.prog 35 [.i n] (.i (fac n)) := by
  refine spec_of Tryz.func35 rfl cc35 rfl ?_
  unfold ac35
  repeat (first | (refine step_ops ?_; (refine m_mov (by conv => lhs; whnf) ?_)) | refine end_ops ?_ | refine seq_ops ?_ | refine AW_seq ?_ | refine AW_block ?_)
  refine AW_loop (α := Nat) (fun j => j + 1 ≤ n ∨ j = 0) (fun j => st [(0, .i n), (3, .i (fac (j + 1))), (4, .i ((j : Int) + 2))] []) (fun j => n - j) 0 (.inr rfl) (weak_st ?_ ?_ rfl rfl) ?_
  · (repeat' (first | exact trivial | refine And.intro ?_ ?_)) <;> (first | rfl | skip)
  · trivial
  intro j hj
  by_cases hc : (j : Int) + 2 ≤ n
  · have hb := fac14_le (j + 2) (by omega)
    have e : fac (j + 2) = fac (j + 1) * ((j : Int) + 2) := rfl
    rw [e] at hb
    repeat (first | (refine step_ops ?_; (first | (refine m_mov (by conv => lhs; whnf) ?_) | (refine m_leq rfl rfl ?_) | (refine m_add rfl rfl ?_ ?_ ?_; (· omega); (· omega)) | (refine m_mul rfl rfl ?_ ?_ ?_; (· first | omega | (simp; done)); (· first | omega | (simp; done))))) | refine end_ops ?_ | refine seq_ops ?_ | refine AW_ops ?_ | (refine cond_t rfl ?_ ?_; (· first | rfl | assumption | (refine decide_eq_true ?_; first | assumption | omega) | (refine nt ?_; first | assumption | omega) | (simp [*]; done))) | refine skip_then ?_ | refine AW_seq ?_ | refine norm_then ?_ | refine AW_block ?_ | refine norm_block ?_)
    refine next_round (j + 1) (by omega) (weak_st ?_ ?_ rfl rfl) ?_
    · (repeat' (first | exact trivial | refine And.intro ?_ ?_)) <;> (first | rfl | skip)
    · trivial
    · omega
  · repeat (first | (refine step_ops ?_; (first | (refine m_mov (by conv => lhs; whnf) ?_) | (refine m_leq rfl rfl ?_))) | refine end_ops ?_ | refine seq_ops ?_ | (refine cond_f rfl ?_ ?_; (· first | rfl | assumption | (refine decide_eq_false ?_; first | assumption | omega) | (refine nf ?_; first | assumption | omega) | (simp [*]; done))) | refine AW_seq ?_ | refine AW_ret ?_ | refine ret_done ?_ | refine norm_then ?_ | refine exit_then ?_ | refine exit_round ?_ | refine AW_exit ?_ | refine exit_block ?_)
    refine outs_i ?_
    rcases hj with hj | rfl
    · have : j + 1 = n := by omega
      rw [this]
    · have : n = 0 ∨ n = 1 := by omega
      rcases this with rfl | rfl <;> rfl
theorem exTimes14_spec (n : Nat) (h : n ≤ 14) : Sp Tryz.prog 38 [.i n] (.i (fac n)) := by
  refine spec_of Tryz.func38 rfl cc38 rfl ?_
  unfold ac38
  repeat (first | (refine step_ops ?_; (refine m_mov (by conv => lhs; whnf) ?_)) | refine end_ops ?_ | refine seq_ops ?_ | refine AW_seq ?_ | refine AW_block ?_)
  refine AW_loop (α := Nat) (fun j => j + 1 ≤ n ∨ j = 0) (fun j => st [(0, .i n), (3, .i (fac (j + 1))), (4, .i ((j : Int) + 2))] []) (fun j => n - j) 0 (.inr rfl) (weak_st ?_ ?_ rfl rfl) ?_
  · (repeat' (first | exact trivial | refine And.intro ?_ ?_)) <;> (first | rfl | skip)
  · trivial
  intro j hj
  by_cases hc : (j : Int) + 2 ≤ n
  · have hb := fac14_le (j + 2) (by omega)
    have e : fac (j + 2) = fac (j + 1) * ((j : Int) + 2) := rfl
    rw [e] at hb
    repeat (first | (refine step_ops ?_; (first | (refine m_mov (by conv => lhs; whnf) ?_) | (refine m_leq rfl rfl ?_) | (refine m_add rfl rfl ?_ ?_ ?_; (· omega); (· omega)) | (refine m_mul rfl rfl ?_ ?_ ?_; (· first | omega | (simp; done)); (· first | omega | (simp; done))))) | refine end_ops ?_ | refine seq_ops ?_ | refine AW_ops ?_ | (refine cond_t rfl ?_ ?_; (· first | rfl | assumption | (refine decide_eq_true ?_; first | assumption | omega) | (refine nt ?_; first | assumption | omega) | (simp [*]; done))) | refine skip_then ?_ | refine AW_seq ?_ | refine norm_then ?_ | refine AW_block ?_ | refine norm_block ?_)
    refine next_round (j + 1) (by omega) (weak_st ?_ ?_ rfl rfl) ?_
    · (repeat' (first | exact trivial | refine And.intro ?_ ?_)) <;> (first | rfl | skip)
    · trivial
    · omega
  · repeat (first | (refine step_ops ?_; (first | (refine m_mov (by conv => lhs; whnf) ?_) | (refine m_leq rfl rfl ?_))) | refine end_ops ?_ | refine seq_ops ?_ | (refine cond_f rfl ?_ ?_; (· first | rfl | assumption | (refine decide_eq_false ?_; first | assumption | omega) | (refine nf ?_; first | assumption | omega) | (simp [*]; done))) | refine AW_seq ?_ | refine AW_ret ?_ | refine ret_done ?_ | refine norm_then ?_ | refine exit_then ?_ | refine exit_round ?_ | refine AW_exit ?_ | refine exit_block ?_)
    refine outs_i ?_
    rcases hj with hj | rfl
    · have : j + 1 = n := by omega
      rw [this]
    · have : n = 0 ∨ n = 1 := by omega
      rcases this with rfl | rfl <;> rfl
theorem taCouples_spec (a : Int) : Sp Tryz.prog 30 [.i a] (.b (decide (1 ≤ a ∧ a ≤ 7))) := by
  refine spec_of Tryz.func30 rfl cc30 rfl ?_
  unfold ac30
  repeat (first | (refine step_ops ?_; (first | (refine m_mov (by conv => lhs; whnf) ?_))) | refine end_ops ?_ | refine seq_ops ?_ | refine AW_ops ?_ | refine AW_seq ?_ | refine AW_ret ?_ | refine ret_done ?_ | refine norm_then ?_ | refine ret_then ?_ | refine exit_then ?_)
  (refine step_ops ?_); (apply m_call (l1In_spec _ _ _)); (· repeat (first | exact lends_nil | (refine lends_cons ?_ ?_; (· exact lend_v))))
  repeat (first | (refine step_ops ?_; (first | (refine m_mov (by conv => lhs; whnf) ?_))) | refine end_ops ?_ | refine seq_ops ?_ | refine AW_ops ?_ | refine AW_seq ?_ | refine AW_ret ?_ | refine ret_done ?_ | refine norm_then ?_ | refine ret_then ?_ | refine exit_then ?_)
  exact outs_b rfl
theorem countRound_spec (n : Nat) (h1 : 1 ≤ n) (h : n ≤ 7) : Sp Tryz.prog 41 [.i n] (.i (fac (2 * n - 1))) := by
  refine spec_of Tryz.func41 rfl cc41 rfl ?_
  unfold ac41
  repeat (first | (refine step_ops ?_; (first | (refine m_mov (by conv => lhs; whnf) ?_) | (refine m_sub rfl rfl ?_ ?_ ?_; (· omega); (· omega)) | (refine m_mul rfl rfl ?_ ?_ ?_; (· first | omega | (simp; done)); (· first | omega | (simp; done))))) | refine end_ops ?_ | refine seq_ops ?_)
  rw [show 2 * (n : Int) - 1 = ((2 * n - 1 : Nat) : Int) by omega]
  (refine step_ops ?_); (apply m_call (factorial14_spec (2 * n - 1) (by omega))); (· repeat (first | exact lends_nil | (refine lends_cons ?_ ?_; (· exact lend_v))))
  repeat (first | (refine step_ops ?_; (refine m_mov (by conv => lhs; whnf) ?_)) | refine end_ops ?_ | refine AW_ret ?_ | refine ret_done ?_)
  exact outs_i rfl
def roundR (a : Int) : Int := if 1 ≤ a ∧ a ≤ 7 then fac (2 * a.toNat - 1) else 0
def inTurnR (a : Int) : Int := if 1 ≤ a ∧ a ≤ 7 then fac a.toNat * fac (a.toNat - 1) else 0
theorem fac7_le : ∀ n < 8, fac n ≤ 5040 ∧ 1 ≤ fac n := by decide +kernel
end Go.Proofs.YtmmcldbldbpikaaGreatDoor
namespace Go.Proofs.YtmmcldbldbpikaaGreatDoor
variable [Go.Am.CodeBlk]
open Go.Am
attribute [local irreducible] AW Outs Weak Lends Lend Sp aops atree aop1 Then Round InBlock Done
theorem exChoose7_spec (n k : Nat) (hn : n ≤ 7) (hk : k ≤ n) : Sp Tryz.prog 36 [.i n, .i k] (.i (chx n k k)) := by
  refine spec_of Tryz.func36 rfl cc36 rfl ?_
  unfold ac36
  repeat (first | (refine step_ops ?_; (refine m_mov (by conv => lhs; whnf) ?_)) | refine end_ops ?_ | refine seq_ops ?_ | refine AW_seq ?_ | refine AW_block ?_)
  refine AW_loop (α := Nat) (fun j => j ≤ k) (fun j => st [(0, .i n), (1, .i k), (5, .i (chx n k j)), (6, .i ((j : Int) + 1))] []) (fun j => k - j) 0 (by omega) (weak_st ?_ ?_ rfl rfl) ?_
  · (repeat' (first | exact trivial | refine And.intro ?_ ?_)) <;> (first | rfl | skip)
  · trivial
  intro j hj
  have hb := chx_le n (by omega) k (by omega) j (by omega)
  by_cases hc : (j : Int) + 1 ≤ k
  · repeat (first | (refine step_ops ?_; (first | (refine m_mov (by conv => lhs; whnf) ?_) | (refine m_leq rfl rfl ?_) | (refine m_add rfl rfl ?_ ?_ ?_; (· omega); (· omega)) | (refine m_sub rfl rfl ?_ ?_ ?_; (· omega); (· omega)) | (refine m_mul rfl rfl ?_ ?_ ?_; (· first | omega | (simp; done)); (· first | omega | (simp; done))) | (refine m_quo rfl rfl ?_ ?_ ?_ ?_; (· omega); (· omega); (· omega)))) | refine end_ops ?_ | refine seq_ops ?_ | refine AW_ops ?_ | (refine cond_t rfl ?_ ?_; (· first | rfl | assumption | (refine decide_eq_true ?_; first | assumption | omega) | (refine nt ?_; first | assumption | omega) | (simp [*]; done))) | refine skip_then ?_ | refine AW_seq ?_ | refine norm_then ?_ | refine AW_block ?_ | refine norm_block ?_)
    refine next_round (j + 1) (by omega) (weak_st ?_ ?_ rfl rfl) ?_
    · (repeat' (first | exact trivial | refine And.intro ?_ ?_)) <;> (first | rfl | skip)
    · trivial
    · omega
  · repeat (first | (refine step_ops ?_; (first | (refine m_mov (by conv => lhs; whnf) ?_) | (refine m_leq rfl rfl ?_))) | refine end_ops ?_ | refine seq_ops ?_ | (refine cond_f rfl ?_ ?_; (· first | rfl | assumption | (refine decide_eq_false ?_; first | assumption | omega) | (refine nf ?_; first | assumption | omega) | (simp [*]; done))) | refine AW_seq ?_ | refine AW_ret ?_ | refine ret_done ?_ | refine norm_then ?_ | refine exit_then ?_ | refine exit_round ?_ | refine AW_exit ?_ | refine exit_block ?_)
    obtain rfl : j = k := by omega
    exact outs_i rfl
theorem taPower_spec (k : Nat) (hk : k ≤ 7) : Sp Tryz.prog 37 [.i k] (.i (2 ^ k)) := by
  have hp : ∀ k < 8, (0 : Int) ≤ 2 ^ k ∧ (2 : Int) ^ k ≤ 128 := by decide
  have h := hp k (by omega)
  refine spec_of Tryz.func37 rfl cc37 rfl ?_
  unfold ac37
  repeat (first | (refine step_ops ?_; (first | (refine m_mov (by conv => lhs; whnf) ?_))) | refine end_ops ?_ | refine seq_ops ?_ | refine AW_ops ?_ | refine AW_seq ?_ | refine AW_ret ?_ | refine ret_done ?_ | refine norm_then ?_ | refine ret_then ?_ | refine exit_then ?_)
  refine step_ops ?_
  refine m_shl (a := 1) rfl rfl (by omega) (by omega) (by omega) ?_
  repeat (first | (refine step_ops ?_; (first | (refine m_mov (by conv => lhs; whnf) ?_))) | refine end_ops ?_ | refine seq_ops ?_ | refine AW_ops ?_ | refine AW_seq ?_ | refine AW_ret ?_ | refine ret_done ?_ | refine norm_then ?_ | refine ret_then ?_ | refine exit_then ?_)
  refine outs_i ?_
  rw [Int.one_mul]
theorem countChoices7_spec (n k : Nat) (hn : n ≤ 7) (hk : k ≤ n) : Sp Tryz.prog 60 [.i n, .i k] (.i (binC n k)) := by
  have hb := bin_le n (by omega) k (by omega)
  unfold binC at hb
  refine spec_of Tryz.func60 rfl cc60 rfl ?_
  unfold ac60
  repeat (first | (refine step_ops ?_; (refine m_mov (by conv => lhs; whnf) ?_)) | refine end_ops ?_ | refine seq_ops ?_)
  (refine step_ops ?_); (apply m_call (factorial14_spec n (by omega))); (· repeat (first | exact lends_nil | (refine lends_cons ?_ ?_; (· exact lend_v))))
  repeat (refine step_ops ?_; (refine m_mov (by conv => lhs; whnf) ?_))
  (refine step_ops ?_); (apply m_call (factorial14_spec k (by omega))); (· repeat (first | exact lends_nil | (refine lends_cons ?_ ?_; (· exact lend_v))))
  repeat (refine step_ops ?_; (first | (refine m_mov (by conv => lhs; whnf) ?_) | (refine m_sub rfl rfl ?_ ?_ ?_; (· omega); (· omega))))
  rw [show (n : Int) - (k : Int) = ((n - k : Nat) : Int) by omega]
  (refine step_ops ?_); (apply m_call (factorial14_spec (n - k) (by omega))); (· repeat (first | exact lends_nil | (refine lends_cons ?_ ?_; (· exact lend_v))))
  repeat (first | (refine step_ops ?_; (first | (refine m_mov (by conv => lhs; whnf) ?_) | (refine m_mul rfl rfl ?_ ?_ ?_; (· first | omega | (simp; done)); (· first | omega | (simp; done))) | (refine m_quo rfl rfl ?_ ?_ ?_ ?_; (· omega); (· omega); (· omega)))) | refine end_ops ?_ | refine AW_ret ?_ | refine ret_done ?_)
  exact outs_i rfl
/-- A function value that tells in how many ways so many can sit. -/
def Orders (f : FuncId) (orders : Nat → Int) (c : Nat) : Prop := Callable Tryz.prog f ∧ ∀ m, c ≤ m → m ≤ 2 * c → Sp Tryz.prog f [.i m] (.i (orders m))
theorem justSoMany_spec (w : List Int) (hw : JOk w) (hl : w.length ≤ 8) (h1 : 1 ≤ w.length) : Sp Tryz.prog 61 [ints w] (newInts (jTo w w.length)) := by
  refine spec_of Tryz.func61 rfl cc61 rfl ?_
  unfold ac61
  repeat (first | (refine step_ops ?_; (first | (refine m_mov (by conv => lhs; whnf) ?_) | (refine m_nils ?_))) | refine end_ops ?_ | refine seq_ops ?_)
  refine step_ops ?_; (apply m_callo (slicesClone_spec w (by omega) h1)); (· repeat (first | exact lends_nil | (refine lends_cons ?_ ?_; (· (refine lend_ints ?_; first | rfl | omega))))); (· first | exact allv_ints _ | rfl | (simp; done))
  repeat (first | (refine step_ops ?_; (first | (refine m_mov (by conv => lhs; whnf) ?_) | (refine m_sub rfl rfl ?_ ?_ ?_; (· omega); (· omega)) | (refine m_len_sl rfl ?_))) | refine end_ops ?_ | refine seq_ops ?_ | refine AW_seq ?_ | refine AW_block ?_)
  refine AW_loop (α := Nat) (fun d => d ≤ w.length) (fun d => st [(3, .sl 7 1 0 w.length), (4, .i (((w.length - d : Nat) : Int) - 1))] [(7, (true, (jTo w d).map AV.i))]) (fun d => w.length - d) 0 (by omega) (weak_st ?_ ?_ rfl rfl) ?_
  · (repeat' (first | exact trivial | refine And.intro ?_ ?_)) <;> (first | rfl | skip)
  · exact ⟨rfl, trivial⟩
  intro d hd
  have hlen := jTo_len w d
  by_cases hc : d < w.length
  · obtain ⟨k, hk⟩ : ∃ k, w.length - d = k + 1 := ⟨w.length - d - 1, by omega⟩
    have hkd : w.length - 1 - d = k := by omega
    rw [hk, show ((k + 1 : Nat) : Int) - 1 = (k : Int) by omega]
    repeat (first | (refine step_ops ?_; (first | (refine m_mov (by conv => lhs; whnf) ?_) | (refine m_geq rfl rfl ?_) | (refine m_add rfl rfl ?_ ?_ ?_; (· omega); (· omega)))) | refine end_ops ?_ | refine seq_ops ?_ | (refine cond_t rfl ?_ ?_; (· first | rfl | assumption | (refine decide_eq_true ?_; first | assumption | omega) | (refine nt ?_; first | assumption | omega) | (simp [*]; done))) | refine skip_then ?_ | refine AW_seq ?_ | refine AW_block ?_)
    refine AW_loop (α := Nat) (fun j => j ≤ d) (fun j => st [(3, .sl 7 1 0 w.length), (4, .i k), (5, .i ((k + 1 + j : Nat) : Int))] [(7, (true, (jRow (jTo w d) k j).map AV.i))]) (fun j => d - j) 0 (by omega) (weak_st ?_ ?_ rfl rfl) ?_
    · (repeat' (first | exact trivial | refine And.intro ?_ ?_)) <;> (first | rfl | skip)
    · exact ⟨rfl, trivial⟩
    intro j hj
    have hlen2 : (jRow (jTo w d) k j).length = w.length := by rw [jRow_len, hlen]
    by_cases hc2 : j < d
    · have hb := hw d hc j hc2
      rw [hkd] at hb
      have hkl : k + 1 + j < w.length := by omega
      repeat (first | ((first | refine step_ops ?_ | refine step_tree ?_); (first | (refine m_mov (by conv => lhs; whnf) ?_) | (refine m_lss rfl rfl ?_) | (refine m_len_sl rfl ?_) | (refine m_idx1_sl rfl rfl ?_ ?_; (· omega)) | (refine m_ld_pti rfl (by rfl) ?_ ?_; (· first | omega | (simp; omega))))) | refine end_ops ?_ | refine seq_ops ?_ | refine AW_tree ?_ | (refine cond_t rfl ?_ ?_; (· first | rfl | assumption | (refine decide_eq_true ?_; first | assumption | omega) | (refine nt ?_; first | assumption | omega) | (simp [*]; done))) | refine skip_then ?_ | refine AW_seq ?_ | refine AW_block ?_)
      refine step_tree ?_; (apply m_call (countChoices7_spec (k + 1 + j) k (by omega) (by omega))); (· repeat (first | exact lends_nil | (refine lends_cons ?_ ?_; (· exact lend_v))))
      repeat (first | ((first | refine step_ops ?_ | refine step_tree ?_); (first | (refine m_mov (by conv => lhs; whnf) ?_) | (refine m_add rfl rfl ?_ ?_ ?_; (· omega); (· omega)) | (refine m_sub rfl rfl ?_ ?_ ?_; (· omega); (· omega)) | (refine m_mul rfl rfl ?_ ?_ ?_; (· first | omega | (simp; done)); (· first | omega | (simp; done))) | (refine m_idx1_sl rfl rfl ?_ ?_; (· omega)) | (refine m_ld_pti rfl (by rfl) ?_ ?_; (· first | omega | (simp; omega))) | (apply m_st; (· rfl); (· rfl); (· rfl); (· first | omega | (simp; done) | (simp; omega)); (· rfl)))) | refine end_ops ?_ | refine AW_ops ?_ | refine end_tree ?_ | refine norm_then ?_ | refine norm_block ?_)
      refine next_round (j + 1) (by omega) (weak_st ?_ ?_ rfl rfl) ?_
      · (repeat' (first | exact trivial | refine And.intro ?_ ?_)) <;> (first | rfl | skip)
      · refine ⟨?_, trivial⟩
        show some (true, ((jRow (jTo w d) k j).map AV.i).set k (AV.i ((jRow (jTo w d) k j).getD k 0 - binC (k + 1 + j) k * (jRow (jTo w d) k j).getD (k + 1 + j) 0))) = some (true, (jRow (jTo w d) k (j + 1)).map AV.i)
        rw [jRow, List.map_set]
      · omega
    · obtain rfl : j = d := by omega
      repeat (first | (refine step_ops ?_; (first | (refine m_mov (by conv => lhs; whnf) ?_) | (refine m_lss rfl rfl ?_) | (refine m_sub rfl rfl ?_ ?_ ?_; (· omega); (· omega)) | (refine m_len_sl rfl ?_))) | refine end_ops ?_ | refine seq_ops ?_ | refine AW_ops ?_ | (refine cond_f rfl ?_ ?_; (· first | rfl | assumption | (refine decide_eq_false ?_; first | assumption | omega) | (refine nf ?_; first | assumption | omega) | (simp [*]; done))) | refine AW_seq ?_ | refine norm_then ?_ | refine exit_then ?_ | refine norm_block ?_ | refine exit_round ?_ | refine AW_exit ?_ | refine exit_block ?_)
      refine next_round (j + 1) hc (weak_st ?_ ?_ rfl rfl) ?_
      · refine ⟨rfl, ?_, trivial⟩
        show AV.i ((k : Int) - 1) = AV.i (((w.length - (j + 1) : Nat) : Int) - 1)
        exact congrArg AV.i (by omega)
      · refine ⟨?_, trivial⟩
        show some (true, (jRow (jTo w j) k j).map AV.i) = some (true, (jTo w (j + 1)).map AV.i)
        rw [jTo, hkd]
      · omega
  · obtain rfl : d = w.length := by omega
    rw [Nat.sub_self]
    repeat (first | (refine step_ops ?_; (first | (refine m_mov (by conv => lhs; whnf) ?_) | (refine m_geq rfl rfl ?_))) | refine end_ops ?_ | refine seq_ops ?_ | (refine cond_f rfl ?_ ?_; (· first | rfl | assumption | (refine decide_eq_false ?_; first | assumption | omega) | (refine nf ?_; first | assumption | omega) | (simp [*]; done))) | refine AW_seq ?_ | refine AW_ret ?_ | refine ret_done ?_ | refine norm_then ?_ | refine exit_then ?_ | refine exit_round ?_ | refine AW_exit ?_ | refine exit_block ?_)
    exact outs_ints rfl rfl hlen.symm
theorem togetherNumbers_spec (c : Nat) (h1 : 1 ≤ c) (h7 : c ≤ 7) (f : FuncId) (orders : Nat → Int) (hf : Orders f orders c) (hj : JOk (chosL orders c))
    (hb : ∀ k < c + 1, (0 ≤ binC c k * 2 ^ k ∧ binC c k * 2 ^ k ≤ 100000) ∧ 0 ≤ chosT orders c k ∧ chosT orders c k ≤ 1000000000000000) :
    Sp Tryz.prog 34 [.i c, .v (.func (.func f) #[] #[])] (newInts (jTo (chosL orders c) (c + 1))) := by
  have hll := chosL_len orders c
  have hjs := justSoMany_spec (chosL orders c) hj (by omega) (by omega)
  rw [hll] at hjs
  refine spec_of Tryz.func34 rfl cc34 rfl ?_
  unfold ac34
  repeat (first | (refine step_ops ?_; (first | (refine m_mov (by conv => lhs; whnf) ?_) | (refine m_add rfl rfl ?_ ?_ ?_; (· omega); (· omega)) | (refine m_nils ?_))) | refine end_ops ?_ | refine seq_ops ?_)
  rw [show (c : Int) + 1 = ((c + 1 : Nat) : Int) by omega]
  refine step_ops ?_
  refine m_mk rfl rfl (by omega) (by omega) ?_
  repeat (first | (refine step_ops ?_; (first | (refine m_mov (by conv => lhs; whnf) ?_) | (refine m_len_sl rfl ?_))) | refine end_ops ?_ | refine seq_ops ?_ | refine AW_seq ?_ | refine AW_block ?_)
  refine AW_loop (α := Nat) (fun k => k ≤ c + 1) (fun k => st [(0, .i c), (1, .v (.func (.func f) #[] #[])), (5, .sl 9 1 0 (c + 1)), (11, .i (c + 1 : Nat)), (12, .i k)] [(9, (true, (chosTo orders c k).map AV.i))]) (fun k => c + 1 - k) 0 (by omega) (weak_st ?_ ?_ rfl rfl) ?_
  · (repeat' (first | exact trivial | refine And.intro ?_ ?_)) <;> (first | rfl | skip)
  · refine ⟨?_, trivial⟩
    show some (true, (List.replicate (c + 1) (List.map AV.v [Value.int IntKind.i64 0])).flatten) = _
    simp [chosTo]
  intro k hk
  have hlen := chosTo_len orders c k hk
  by_cases hc : k < c + 1
  · have hb1 := hb k hc
    have hs := hf.2 (2 * c - k) (by omega) (by omega)
    repeat (first | ((first | refine step_ops ?_ | refine step_tree ?_); (first | (refine m_mov (by conv => lhs; whnf) ?_) | (refine m_lss rfl rfl ?_))) | refine end_ops ?_ | refine seq_ops ?_ | refine AW_tree ?_ | (refine cond_t rfl ?_ ?_; (· first | rfl | assumption | (refine decide_eq_true ?_; first | assumption | omega) | (refine nt ?_; first | assumption | omega) | (simp [*]; done))) | refine skip_then ?_ | refine AW_seq ?_ | refine AW_block ?_)
    refine step_tree ?_; (apply m_call (countChoices7_spec c k (by omega) (by omega))); (· repeat (first | exact lends_nil | (refine lends_cons ?_ ?_; (· exact lend_v))))
    repeat (refine step_tree ?_; (refine m_mov (by conv => lhs; whnf) ?_))
    have hb2 := hb1.2
    unfold chosT at hb2
    refine step_tree ?_
    refine m_shl (a := binC c k) (k := k) rfl rfl (by omega) (by omega) (by omega) ?_
    repeat (refine step_tree ?_; (first | (refine m_mov (by conv => lhs; whnf) ?_) | (refine m_sub rfl rfl ?_ ?_ ?_; (· omega); (· omega)) | (refine m_mul rfl rfl ?_ ?_ ?_; (· first | omega | (simp; done)); (· first | omega | (simp; done)))))
    rw [show 2 * (c : Int) - (k : Int) = ((2 * c - k : Nat) : Int) by omega]
    refine step_tree ?_
    refine m_callv rfl hf.1 hs (lends_cons lend_v lends_nil) ?_
    repeat (first | ((first | refine step_ops ?_ | refine step_tree ?_); (first | (refine m_mov (by conv => lhs; whnf) ?_) | (refine m_add rfl rfl ?_ ?_ ?_; (· omega); (· omega)) | (refine m_mul rfl rfl ?_ ?_ ?_; (· first | omega | (simp; done)); (· first | omega | (simp; done))) | (refine m_idx1_sl rfl rfl ?_ ?_; (· omega)) | (apply m_st; (· rfl); (· rfl); (· rfl); (· first | omega | (simp; done) | (simp; omega)); (· rfl)))) | refine end_ops ?_ | refine AW_ops ?_ | refine end_tree ?_ | refine norm_then ?_ | refine norm_block ?_)
    refine next_round (k + 1) (by omega) (weak_st ?_ ?_ rfl rfl) ?_
    · (repeat' (first | exact trivial | refine And.intro ?_ ?_)) <;> (first | rfl | skip)
    · refine ⟨?_, trivial⟩
      rw [← chosTo_set orders c k hc, List.map_set]
      rfl
    · omega
  · obtain rfl : k = c + 1 := by omega
    rw [chosTo_all]
    repeat (first | (refine step_ops ?_; (first | (refine m_mov (by conv => lhs; whnf) ?_) | (refine m_lss rfl rfl ?_))) | refine end_ops ?_ | refine seq_ops ?_ | (refine cond_f rfl ?_ ?_; (· first | rfl | assumption | (refine decide_eq_false ?_; first | assumption | omega) | (refine nf ?_; first | assumption | omega) | (simp [*]; done))) | refine AW_seq ?_ | refine norm_then ?_ | refine exit_then ?_ | refine exit_round ?_ | refine AW_exit ?_ | refine exit_block ?_)
    refine step_ops ?_; (apply m_callo (hjs)); (· repeat (first | exact lends_nil | (refine lends_cons ?_ ?_; (· (refine lend_sli (by rfl) ?_; first | rfl | omega | (simp; done)))))); (· first | exact allv_ints _ | rfl | (simp; done))
    repeat (first | (refine step_ops ?_; (refine m_mov (by conv => lhs; whnf) ?_)) | refine end_ops ?_ | refine AW_ret ?_ | refine ret_done ?_)
    exact outs_ints rfl rfl rfl
theorem orders_fac (c : Nat) (h7 : c ≤ 7) : Orders 35 fac c := ⟨⟨_, Tryz.func35, by rfl, by rfl⟩, fun m _ hm => factorial14_spec m (by omega)⟩
theorem around_spec (m : Nat) (h1 : 1 ≤ m) (h : m ≤ 14) : Sp Tryz.prog 59 [.i m] (.i (facM m)) := by
  refine spec_of Tryz.func59 rfl cc59 rfl ?_
  unfold ac59
  repeat (first | (refine step_ops ?_; (first | (refine m_mov (by conv => lhs; whnf) ?_) | (refine m_sub rfl rfl ?_ ?_ ?_; (· omega); (· omega)))) | refine end_ops ?_ | refine seq_ops ?_ | refine AW_ops ?_ | refine AW_seq ?_ | refine AW_ret ?_ | refine ret_done ?_ | refine norm_then ?_ | refine ret_then ?_ | refine exit_then ?_)
  rw [show (m : Int) - 1 = ((m - 1 : Nat) : Int) by omega]
  (refine step_ops ?_); (apply m_call (factorial14_spec (m - 1) (by omega))); (· repeat (first | exact lends_nil | (refine lends_cons ?_ ?_; (· exact lend_v))))
  repeat (first | (refine step_ops ?_; (first | (refine m_mov (by conv => lhs; whnf) ?_) | (refine m_sub rfl rfl ?_ ?_ ?_; (· omega); (· omega)))) | refine end_ops ?_ | refine seq_ops ?_ | refine AW_ops ?_ | refine AW_seq ?_ | refine AW_ret ?_ | refine ret_done ?_ | refine norm_then ?_ | refine ret_then ?_ | refine exit_then ?_)
  exact outs_i rfl
theorem orders_round (c : Nat) (h1 : 1 ≤ c) (h7 : c ≤ 7) : Orders 59 facM c := ⟨⟨_, Tryz.func59, by rfl, by rfl⟩, fun m h2 hm => around_spec m (by omega) (by omega)⟩
theorem roundNumbers_spec (c : Nat) (h1 : 1 ≤ c) (h7 : c ≤ 7) : Sp Tryz.prog 29 [.i c] (newInts (roundL c)) := by
  refine spec_of Tryz.func29 rfl cc29 rfl ?_
  unfold ac29
  by_cases h : (c : Int) = 1
  · obtain rfl : c = 1 := by omega
    repeat (first | (refine step_ops ?_; (first | (refine m_mov (by conv => lhs; whnf) ?_) | (refine m_eql rfl rfl ?_) | (refine m_nils ?_))) | refine end_ops ?_ | refine seq_ops ?_ | (refine cond_t rfl ?_ ?_; (· first | rfl | assumption | (refine decide_eq_true ?_; first | assumption | omega) | (refine nt ?_; first | assumption | omega) | (simp [*]; done))) | refine AW_seq ?_)
    refine step_ops ?_
    refine m_bsl2i (a := 0) (b := 1) rfl rfl ?_
    repeat (first | (refine step_ops ?_; (refine m_mov (by conv => lhs; whnf) ?_)) | refine end_ops ?_ | refine AW_ret ?_ | refine ret_done ?_ | refine ret_then ?_)
    exact outs_ints rfl rfl rfl
  · have e : roundL c = jTo (chosL facM c) (c + 1) := if_neg (by omega)
    rw [e]
    repeat (first | (refine step_ops ?_; (first | (refine m_mov (by conv => lhs; whnf) ?_) | (refine m_eql rfl rfl ?_) | (refine m_nils ?_))) | refine end_ops ?_ | refine seq_ops ?_ | (refine cond_f rfl ?_ ?_; (· first | rfl | assumption | (refine decide_eq_false ?_; first | assumption | omega) | (refine nf ?_; first | assumption | omega) | (simp [*]; done))) | refine skip_then ?_ | refine AW_seq ?_)
    (refine step_ops ?_); (apply m_callo (togetherNumbers_spec c h1 h7 59 facM (orders_round c h1 h7) (jok_round c (by omega)) (fun k hk => ⟨(chos_le c (by omega) k hk).1, (chos_le c (by omega) k hk).2.2⟩))); (· repeat (first | exact lends_nil | (refine lends_cons ?_ ?_; (· exact lend_v)))); (· first | exact allv_ints _ | rfl | (simp; done))
    repeat (first | (refine step_ops ?_; (refine m_mov (by conv => lhs; whnf) ?_)) | refine end_ops ?_ | refine AW_ret ?_ | refine ret_done ?_)
    exact outs_ints rfl rfl rfl
end Go.Proofs.YtmmcldbldbpikaaGreatDoor
namespace Go.Proofs.YtmmcldbldbpikaaGreatDoor
variable [Go.Am.CodeBlk]
open Go.Am
attribute [local irreducible] AW Outs Weak Lends Lend Sp aops atree aop1 Then Round InBlock Done
/-- A fraction in lowest terms. -/
def low (a b : Nat) : Nat × Nat := (a / Nat.gcd a b, b / Nat.gcd a b)
def fracV (p : Nat × Nat) : List AV := [.i p.1, .i p.2]
theorem partOf_spec (a b : Nat) (ha : a ≤ 1000000000000000000) (hb : b ≤ 1000000000000000000) (h1 : 1 ≤ b) : Sp Tryz.prog 42 [.i a, .i b] (.agg (fracV (low a b))) := by
  have hg : 0 < Nat.gcd a b := Nat.gcd_pos_of_pos_right _ h1
  have e1 : ((a / Nat.gcd a b : Nat) : Int) = (a : Int) / (Nat.gcd a b : Nat) := by simp
  have e2 : ((b / Nat.gcd a b : Nat) : Int) = (b : Int) / (Nat.gcd a b : Nat) := by simp
  unfold fracV low
  dsimp only
  rw [e1, e2]
  refine specC_of Tryz.func42 rfl cc42 (by set_option maxRecDepth 100000 in rfl) ?_
  unfold ac42
  repeat (first | (refine step_ops ?_; (first | (refine m_mov (by conv => lhs; whnf) ?_) | (refine m_alloc ?_))) | refine end_ops ?_ | refine seq_ops ?_)
  refine step_ops ?_; (apply m_call (commonDivisor_spec a b)); (· repeat (first | exact lends_nil | (refine lends_cons ?_ ?_; (· exact lend_v))))
  repeat (first | ((first | refine step_ops ?_ | refine step_tree ?_); (first | (refine m_mov (by conv => lhs; whnf) ?_) | (refine m_bld_2 (by conv => lhs; whnf) (by conv => lhs; whnf) (by decide)  (by decide) (by rfl) (by rfl) ?_) | (refine m_stall rfl rfl rfl ?_ ?_ ?_ ?_; (· first | rfl | (simp [*]; done)); (· first | rfl | (simp [*]; done)); (· first | rfl | (simp [cellOk, Value.oneCell']; done))) | (refine m_quo rfl rfl ?_ ?_ ?_ ?_; (· omega); (· omega); (· omega)))) | refine end_ops ?_ | refine end_tree ?_ | refine seq_tree ?_ | refine AW_ret ?_)
  exact ret_donec rfl rfl rfl (outs_agg rfl)
theorem told_spec (p : Nat × Nat) : Sp Tryz.prog 43 [.agg (fracV p)] (.tup [.i p.1, .i p.2, .b true]) := by
  unfold fracV
  refine spec_of Tryz.func43 rfl cc43 rfl ?_
  unfold ac43
  repeat (first | ((first | refine step_ops ?_ | refine step_tree ?_); (first | (refine m_mov (by conv => lhs; whnf) ?_) | (apply m_ld_pt; (· rfl); (· rfl); (· rfl)) | (refine m_fa rfl ?_) | (refine m_box rfl ?_ ?_; (· first | rfl | (simp [cellOk, Value.oneCell']; done))))) | refine end_ops ?_ | refine seq_ops ?_ | refine end_tree ?_ | refine seq_tree ?_ | refine AW_ret ?_ | refine ret_done ?_)
  exact outs_tup3 (outs_i rfl) (outs_i rfl) (outs_b rfl)
end Go.Proofs.YtmmcldbldbpikaaGreatDoor
