/- The abstract machine: function values that bear arguments. -/
import Derived.Test.YtojpcpdbnmnknaaDoorAmT
namespace Go.Am

/-- A function value bears its first arguments; what it bears, a callee may read as it is. -/
def Bears (fl : List AV) : Prop := ∀ hp, ∀ x ∈ fl, Lend hp x x
theorem lends_bears {fl : List AV} (h : Bears fl) (hp : Hp) {xs ys : List AV} (k : Lends hp xs ys) : Lends hp (fl ++ xs) (fl ++ ys) := by
  induction fl with
  | nil => exact k
  | cons a l ih => exact lends_cons (h hp a (by simp)) (ih fun hp x hx => h hp x (by simp [hx]))
theorem bears_agg {l : List AV} (h : l.all plainV = true) : Bears [.agg l] := by
  intro hp x hx
  rw [List.mem_singleton.1 hx]
  exact lend_agg h
theorem lend_fn {hp : Hp} {f : FuncId} {l m : List AV} {k : Nat} (h : Lends hp l m) : Lend hp (.fn f l k) (.fn f m k) := by
  intro w0 mu N tm w phi ro v hS hv
  simp only [SimV] at hv ⊢
  obtain ⟨a, b, h1, h2, h3, h4⟩ := hv
  obtain ⟨h5, h6⟩ := h w0 mu N tm w phi ro (a.toList ++ b.toList) hS h4 (by simpa using h3)
  exact ⟨a, b, h1, h2, by simpa using h6, h5⟩
theorem lend_bears {hp : Hp} {f : FuncId} {fl : List AV} {k : Nat} (h : Bears fl) : Lend hp (.fn f fl k) (.fn f fl k) := by
  have := lends_bears h hp lends_nil
  simp only [List.append_nil] at this
  exact lend_fn this
theorem refsL_plain {keep : Nat → Bool} {l : List AV} (h : l.all plainV = true) : refsL keep l = true := by
  induction l with
  | nil => simp [refsL]
  | cons a l ih =>
    simp only [List.all_cons, Bool.and_eq_true] at h
    simp only [refsL, ih h.2, Bool.and_true]
    cases a <;> simp [plainV] at h <;> simp [refsV]

theorem killL_plain {r : Nat} {l : List AV} (h : l.all plainV = true) : killL r l = l := by
  induction l with
  | nil => simp [killL]
  | cons a l ih =>
    simp only [List.all_cons, Bool.and_eq_true] at h
    simp only [killL, ih h.2]
    cases a <;> simp [plainV] at h <;> simp [killV]
theorem killL_aggs {r : Nat} {l : List AV} (h : l.all plainV = true) : killL r [.agg l] = [.agg l] := by simp only [killL, killV, killL_plain h]
theorem refsL_aggs {keep : Nat → Bool} {l : List AV} (h : l.all plainV = true) : refsL keep [.agg l] = true := by simp only [refsL, refsV, refsL_plain h, Bool.and_true]
section
variable {s : AS}
theorem tm_put_ne' {d t : Nat} {x : AV} (h : t ≠ d) : (s.put (some d) x).tm t = s.tm t := by simp [AS.put, h]
theorem tm_put_none {t : Nat} {x : AV} : (s.put none x).tm t = s.tm t := rfl
theorem tm_mem {r t : Nat} {c : Bool × List AV} : (s.mem r c).tm t = s.tm t := rfl
theorem tm_kill {r t : Nat} : (s.kill r).tm t = killV r (s.tm t) := rfl
theorem tm_mv {r q t : Nat} {c : List AV} : (s.mv r q c).tm t = mvV r q (s.tm t) := rfl
theorem tm_st {l : List (Nat × AV)} {h : List (Nat × (Bool × List AV))} {t : Nat} : (st l h).tm t = (look l t).getD .any := rfl
theorem tm_en0 {a : AV} {l : List AV} : (enter0 (a :: l)).tm 0 = a := rfl
theorem tm_en1 {a b : AV} {l : List AV} : (enter0 (a :: b :: l)).tm 1 = b := rfl
theorem tm_en2 {a b c : AV} {l : List AV} : (enter0 (a :: b :: c :: l)).tm 2 = c := rfl
theorem tm_en3 {a b c d : AV} {l : List AV} : (enter0 (a :: b :: c :: d :: l)).tm 3 = d := rfl
theorem tm_en4 {a b c d e : AV} {l : List AV} : (enter0 (a :: b :: c :: d :: e :: l)).tm 4 = e := rfl
end
section
variable {f : FuncId} {fl : List AV} {k r q : Nat}
theorem kill_fn (h : ∀ r, killL r fl = fl) : killV r (.fn f fl k) = .fn f fl k := by simp only [killV, h]
theorem mv_fn (h : ∀ r, killL r fl = fl) : mvV r q (.fn f fl k) = .fn f fl k := by simp only [mvV, killV, h]
end

/-- May a function value be asked whether a guest fits behind a list? It answers as 'fits' says. -/
structure Asks (P : Program) (f : FuncId) (fl : List AV) (n : Nat) (fits : List Int → Nat → Bool) : Prop where
  call : Callable P f
  bears : Bears fl
  norefs : ∀ keep, refsL keep fl = true
  nokill : ∀ r, killL r fl = fl
  spec : ∀ (M : List Int) (y : Nat), M.length < n → (∀ x ∈ M, 0 ≤ x ∧ x < n) → y < n → Sp P f (fl ++ [ints M, .i y]) (.b (fits M y))
theorem asks_lend {s : AS} {fl : List AV} {args : List Opd} {xs ys : List AV} (h : Bears fl) (he : args.map s.ev = xs) (k : Lends s.hp xs ys) : Lends s.hp (fl.take fl.length ++ args.map s.ev ++ fl.drop fl.length) (fl ++ ys) := by
  rw [he, List.take_length, List.drop_length, List.append_nil]
  exact lends_bears h _ k
theorem lends_self {fl : List AV} (h : Bears fl) (hp : Hp) : Lends hp fl fl := by
  have := lends_bears h hp lends_nil
  simpa only [List.append_nil] using this
theorem bears_nil : Bears [] := fun _ _ h => by simp at h
/-- A pointer to memory that nobody writes. -/
theorem lend_rp {hp : Hp} {cs : List AV} (hall : cs.all plainV = true) : Lend hp (.rp cs) (.rp cs) := by
  intro w0 mu N tm w phi ro v hS hv
  simp only [SimV] at hv ⊢
  obtain ⟨b, o, cur, e, fz, h1, h2, h3, h4⟩ := hv
  exact ⟨b, o, cur, e, fz, h1, h2, lt_of_get h2, simL_allv hall h4⟩
theorem bears_rp {cs : List AV} (h : cs.all plainV = true) : Bears [.rp cs] := by
  intro hp x hx
  rw [List.mem_singleton.1 hx]
  exact lend_rp h
/-- A pointer to a region of my own: the callee reads it. -/
theorem lend_pt {hp : Hp} {r off : Nat} {cs : List AV} (hr : hp r = some (true, cs)) (hall : cs.all plainV = true) : Lend hp (.pt r off) (.rp (cs.drop off)) := by
  intro w0 mu N tm w phi ro v hS hv
  simp only [SimV] at hv ⊢
  obtain ⟨_, _, b, h1, h2, cur, e, h3⟩ := hv
  refine ⟨b, off, cur, e, (0, 0), h2, h3, lt_of_get h3, ?_⟩
  rcases hS.liv r _ hr with ⟨k1, _⟩ | ⟨b', cur', e', k1, k2, k3, k4, k5⟩ | ⟨b', o, k0, _⟩
  · have h1' : phi r = some b := h1
    rw [k1] at h1'; cases h1'
  · have h1' : phi r = some b := h1
    rw [k1] at h1'; cases h1'
    have h3' : w.heap[b]? = some (.cells cur e (0, 0)) := h3
    rw [k2] at h3'; cases h3'
    simp only [SimR, if_true] at k5
    exact (simL_allv hall k5).drop off
  · cases k0; simp [plainV] at hall
theorem lend_fnc {hp : Hp} {f : FuncId} : Lend hp (.v (.func (.func f) #[] #[])) (.fn f [] 0) := by
  intro w0 mu N tm w phi ro v hS hv
  simp only [SimV] at hv ⊢
  exact ⟨#[], #[], hv, rfl, rfl, by simp [SimL]⟩

/-- May a function value be asked of a place? It answers as fb says. -/
structure AsksP (P : Program) (f : FuncId) (fl : List AV) (n : Nat) (fb : Nat → Nat → Bool) : Prop where
  call : Callable P f
  bears : Bears fl
  norefs : ∀ keep, refsL keep fl = true
  nokill : ∀ r, killL r fl = fl
  spec : ∀ i j, i < n → j < n → Sp P f (.agg [.i (i : Nat), .i (j : Nat)] :: fl) (.b (fb i j))

section
variable {P : Program} {own : Bool} {s : AS} {K : AS → Prop}
/-- A slice of two things that lead to regions; it is appended to a region of such. -/
theorem m_bsl2d {x y : Opd} {r : Nat} {z : Value} {v w : AV} (hx : s.ev x = v) (hy : s.ev y = w) (hv : cellOk false v = true) (hw : cellOk false w = true) (k : K (((s.kill r).mem r (killR r (false, [v, w]))).put (some r) (.sl r 1 0 2))) : aop1 P own ⟨some r, .bsl 1 2 [z] [(0, x), (1, y)], none⟩ s K :=
  m_bsl (fl := false) (out := [v, w]) (by subst hx; subst hy; exact .inl ⟨rfl, by simp, hv, .inl ⟨rfl, by simp, hw, rfl⟩⟩) k
theorem m_app2d {x y : Opd} {q r q' n bs : Nat} {cs : List AV} {v w : AV} (hx : s.ev x = .sl r 1 0 n) (hp : r < pbase) (hr : s.hp r = some (false, cs)) (hl : cs.length = n) (hy : s.ev y = .sl q' 1 0 2) (hq : s.hp q' = some (false, [v, w])) (hv : cellOk false v = true) (hw : cellOk false w = true)
    (h1 : n ≤ 4194304) (h2 : bs ≤ 64) (k : K ((((s.kill r).kill q).mem q (killR q (killR r (false, cs ++ [v, w])))).put (some q) (.sl q 1 0 (n + 2)))) : aop1 P own ⟨some q, .app 1 bs x y, none⟩ s K := by
  refine m_app (fl := false) (ys := [v, w]) (m := 2) hx hp hr (by omega) ?_ (by simp [hv, hw]) (by show n + 2 ≤ 9223372036854775807; omega) ?_ ?_
  · rw [hy]
    exact Elems.sl q' 0 2 false [v, w] hq (by simp)
  · have := Nat.mul_le_mul (show n + 2 ≤ 4194306 by omega) h2
    omega
  · exact k
def gpush2 (b m q q2 : Nat) : Nat → Nat := fun j => if j < m then b + j else if j = m then q else q2
/-- Forgetting, two regions having become rows. -/
theorem weak_push2 {s : AS} {l : List (Nat × AV)} {h : List (Nat × (Bool × List AV))} {r0 b : Nat} {rows : List (List Int)} {row row2 : List Int} (f0 : Nat → Nat) (q q2 : Nat)
    (hl : HasF s (nmF b f0 (gpush2 b rows.length q q2)) l) (hh : HasRF s (nmF b f0 (gpush2 b rows.length q q2)) h) (hflat : (h.all fun p => p.2.1) = true) (hk : (r0 :: h.map (·.1)).all (fun r => decide (r < b ∧ f0 r < b)) = true)
    (hpk : (r0 :: h.map (·.1)).all (fun r => decide ((r < pbase ∧ f0 r < pbase) ∨ (pbase ≤ r ∧ f0 r = r))) = true) (hb : b + rows.length + 2 ≤ pbase) (hr : refsT (fun r => (r0 :: h.map (·.1)).contains r) l = true) (hndB : nodupB ((r0 :: h.map (·.1)).map f0) = true)
    (hqb : q < b) (hqn : ((r0 :: h.map (·.1)).map f0).contains q = false) (hqb2 : q2 < b) (hqn2 : ((r0 :: h.map (·.1)).map f0).contains q2 = false) (hqq : q ≠ q2)
    {cs : List AV} (h0 : s.hp (f0 r0) = some (false, cs)) (hcs : cs = rowsC b rows ++ [.sl q 1 0 row.length, .sl q2 1 0 row2.length]) (hq : s.hp q = some (true, row.map AV.i)) (hq2 : s.hp q2 = some (true, row2.map AV.i))
    (hrow : ∀ j, j < rows.length → s.hp (b + j) = some (true, (rows.getD j []).map AV.i)) : Weak s (stM l h r0 b (rows ++ [row] ++ [row2])) := by
  have hlen : (rows ++ [row] ++ [row2]).length = rows.length + 2 := by simp
  have hlen1 : (rows ++ [row]).length = rows.length + 1 := by simp
  refine weak_mat f0 (gpush2 b rows.length q q2) hl hh hflat hk hpk (fun j hj => .inl ⟨by omega, by unfold gpush2; split <;> (try split) <;> omega⟩) hr ⟨false, cs, h0, .inl ⟨rfl, ?_⟩⟩ (fun j hj => ?_) hndB (fun j hj r hr => ?_) (fun j j' h1 h2 e => ?_)
  · rw [hcs, rowsC_snoc, rowsC_snoc, renL_append, renL_append, rowsC_ren _ b b]
    · simp only [renL, renV, hlen1, List.append_assoc, List.cons_append, List.nil_append]
      unfold nmF gpush2
      rw [if_neg (by omega), Nat.add_sub_cancel_left, if_neg (by omega), if_pos rfl, if_neg (by omega), Nat.add_sub_cancel_left, if_neg (by omega), if_neg (by omega)]
    · intro j hj
      unfold nmF gpush2
      rw [if_neg (by omega), Nat.add_sub_cancel_left, if_pos hj]
  · unfold gpush2
    by_cases hj' : j < rows.length
    · rw [if_pos hj', hrow j hj']
      simp [List.getElem?_append, hj']
    · by_cases hj2 : j = rows.length
      · subst hj2
        rw [if_neg hj', if_pos rfl, hq]
        simp
      · have : j = rows.length + 1 := by omega
        subst this
        rw [if_neg hj', if_neg hj2, hq2]
        simp
  · have := of_decide_eq_true (List.all_eq_true.1 hk r hr)
    have hm : f0 r ∈ (r0 :: h.map (·.1)).map f0 := List.mem_map.2 ⟨r, hr, rfl⟩
    unfold gpush2
    split
    · omega
    · split
      · intro e
        rw [e] at hm
        rw [List.contains_iff_mem.2 hm] at hqn; cases hqn
      · intro e
        rw [e] at hm
        rw [List.contains_iff_mem.2 hm] at hqn2; cases hqn2
  · unfold gpush2 at e
    (repeat' split at e) <;> omega
end

/- Boards as texts. -/
def sgn (b : Bool) : UInt8 := if b then 35 else 46
def rowT (fb : Nat → Nat → Bool) (i k : Nat) : List UInt8 := (List.range k).map fun j => sgn (fb i j)
def bdT (fb : Nat → Nat → Bool) (n : Nat) : Nat → List UInt8
  | 0 => []
  | k + 1 => bdT fb n k ++ (if 0 < k then [47] else []) ++ rowT fb k n
theorem rowT_len (fb : Nat → Nat → Bool) (i k : Nat) : (rowT fb i k).length = k := by simp [rowT]
theorem rowT_snoc (fb : Nat → Nat → Bool) (i k : Nat) : rowT fb i (k + 1) = rowT fb i k ++ [sgn (fb i k)] := by simp [rowT, List.range_succ]
theorem bdT_len (fb : Nat → Nat → Bool) (n k : Nat) : (bdT fb n k).length ≤ k * (n + 1) := by
  induction k with
  | zero => simp [bdT]
  | succ k ih =>
    simp only [bdT, List.length_append, rowT_len]
    have : (if 0 < k then [(47 : UInt8)] else []).length ≤ 1 := by split <;> simp
    rw [Nat.add_mul, Nat.one_mul]
    omega
theorem rowT_congr {f g : Nat → Nat → Bool} {i k n : Nat} (h : ∀ i j, i < n → j < n → f i j = g i j) (hi : i < n) (hk : k ≤ n) : rowT f i k = rowT g i k :=
  List.map_congr_left fun j hj => by rw [h i j hi (by have := List.mem_range.1 hj; omega)]
theorem bdT_congr {f g : Nat → Nat → Bool} {n k : Nat} (h : ∀ i j, i < n → j < n → f i j = g i j) (hk : k ≤ n) : bdT f n k = bdT g n k := by
  induction k with
  | zero => rfl
  | succ k ih => simp only [bdT]; rw [ih (by omega), rowT_congr h (by omega) (Nat.le_refl _)]
theorem getD_memL {α : Type} {l : List α} {d : α} {m : Nat} (h : m < l.length) : l.getD m d ∈ l := by
  have : l.getD m d = l[m] := by simp [h]
  rw [this]
  exact List.getElem_mem h
/-- Is a place in a list? -/
def inB (ps : List (List Int)) (i j : Nat) : Bool := ps.any fun p => decide (p.getD 0 0 = (i : Int)) && decide (p.getD 1 0 = (j : Int))
theorem any_take_snoc {α : Type} (l : List α) (p : α → Bool) (d : α) (m : Nat) (h : m < l.length) : (l.take (m + 1)).any p = ((l.take m).any p || p (l.getD m d)) := by
  rw [take_snoc l m d h, List.any_append]
  simp
theorem byteVs_snoc (bs : List UInt8) (b : UInt8) : byteVs (bs ++ [b]) = byteVs bs ++ [.v (.int .u8 b.toNat)] := by simp [byteVs]
end Go.Am
