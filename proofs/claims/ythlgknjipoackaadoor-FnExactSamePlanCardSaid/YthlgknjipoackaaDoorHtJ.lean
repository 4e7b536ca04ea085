/- Contracts: views as keys of a map; the program reads a plan. -/
import Derived.Test.YthlgknjipoackaaDoorHtI
import Derived.DeepKeys3
namespace Go.Am
variable {s : AS}
theorem outs_agg4 {a b c d a' b' c' d' : AV} (h1 : Outs s a a') (h2 : Outs s b b') (h3 : Outs s c c') (h4 : Outs s d d') : Outs s (.agg [a, b, c, d]) (.agg [a', b', c', d']) := by
  intro w0 N tm w phi ro y hS hy
  simp only [SimV] at hy ⊢
  obtain ⟨ar, hy, hsz, hs⟩ := hy
  refine ⟨ar, hy, hsz, ?_⟩
  match hl : ar.toList with
  | [] => rw [hl] at hs; simp [SimL] at hs
  | [_] => rw [hl] at hs; simp [SimL] at hs
  | [_, _] => rw [hl] at hs; simp [SimL] at hs
  | [_, _, _] => rw [hl] at hs; simp [SimL] at hs
  | u :: v :: t :: q :: rest =>
    rw [hl] at hs
    simp only [SimL, and_true] at hs ⊢
    exact ⟨h1 w0 N tm w phi ro u hS hs.1, h2 w0 N tm w phi ro v hS hs.2.1, h3 w0 N tm w phi ro t hS hs.2.2.1, h4 w0 N tm w phi ro q hS hs.2.2.2⟩

/-- A guest and what it sees, as a key; a map of guesses. -/
def keyV (g : Nat) (t : List UInt8) : Value := .agg #[.int .i64 g, .string ⟨t.toArray⟩]
theorem keyV_inj {g h : Nat} {t u : List UInt8} (e : keyV g t = keyV h u) : g = h ∧ t = u := by
  simp only [keyV, Value.agg.injEq, Array.mk.injEq, List.cons.injEq, Value.int.injEq, Value.string.injEq, ByteArray.mk.injEq, true_and, and_true] at e
  exact ⟨by omega, by simpa using e.2⟩
abbrev Gue := (Nat × List UInt8) × Nat
def entV (p : Gue) (born : Nat) : MapEntry := { key := keyV p.1.1 p.1.2, val := .int .i64 p.2, born }
def esL : Nat → List Gue → List MapEntry
  | _, [] => []
  | c, p :: l => entV p c :: esL (c + 1) l
def esV (l : List Gue) : Array MapEntry := (esL 0 l).toArray
theorem esL_snoc (l : List Gue) (p : Gue) : ∀ c, esL c (l ++ [p]) = esL c l ++ [entV p (c + l.length)] := by
  induction l with
  | nil => intro c; simp [esL]
  | cons a l ih => intro c; rw [List.cons_append, esL, esL, ih, List.length_cons, show c + 1 + l.length = c + (l.length + 1) by omega]; rfl
theorem esV_push (l : List Gue) (p : Gue) : (esV l).push { key := keyV p.1.1 p.1.2, val := .int .i64 p.2, born := l.length } = esV (l ++ [p]) := by
  unfold esV
  rw [esL_snoc, Nat.zero_add]
  simp [entV]
theorem mem_esL {l : List Gue} {e : MapEntry} : ∀ {c}, e ∈ esL c l → ∃ p ∈ l, e.key = keyV p.1.1 p.1.2 ∧ e.val = .int .i64 p.2 := by
  induction l with
  | nil => intro c h; simp [esL] at h
  | cons a l ih =>
    intro c h
    simp only [esL, List.mem_cons] at h
    rcases h with rfl | h
    · exact ⟨a, List.mem_cons_self .., rfl, rfl⟩
    · obtain ⟨p, h1, h2⟩ := ih h
      exact ⟨p, List.mem_cons_of_mem _ h1, h2⟩
theorem mem_esV {l : List Gue} {e : MapEntry} (h : e ∈ (esV l).toList) : ∃ p ∈ l, e.key = keyV p.1.1 p.1.2 ∧ e.val = .int .i64 p.2 := mem_esL (c := 0) (by simpa [esV] using h)
theorem has_esL {l : List Gue} {p : Gue} (h : p ∈ l) : ∀ c, ∃ e ∈ esL c l, e.key = keyV p.1.1 p.1.2 := by
  induction l with
  | nil => cases h
  | cons a l ih =>
    intro c
    rcases List.mem_cons.1 h with rfl | h
    · exact ⟨entV p c, by simp [esL], rfl⟩
    · obtain ⟨e, h1, h2⟩ := ih h (c + 1)
      exact ⟨e, by simp [esL, h1], h2⟩
theorem has_esV {l : List Gue} {p : Gue} (h : p ∈ l) : ∃ e ∈ (esV l).toList, e.key = keyV p.1.1 p.1.2 := by
  obtain ⟨e, h1, h2⟩ := has_esL h 0
  exact ⟨e, by simpa [esV] using h1, h2⟩

/-- What one guest guesses for its first n views; all guesses of the first guests. -/
def gRow (c m g : Nat) (r : List UInt8) (n : Nat) : List Gue := (List.range n).map fun i => ((g, dgs c m i), hv (r.getD i 0))
def gAll (c : Nat) (G : List (List UInt8)) (k : Nat) : List Gue := (List.range k).flatMap fun g => gRow c (G.length - 1) g (G.getD g []) (c ^ (G.length - 1))
theorem gRow_succ (c m g : Nat) (r : List UInt8) (n : Nat) : gRow c m g r (n + 1) = gRow c m g r n ++ [((g, dgs c m n), hv (r.getD n 0))] := by simp [gRow, List.range_succ]
theorem gAll_succ (c : Nat) (G : List (List UInt8)) (k : Nat) : gAll c G (k + 1) = gAll c G k ++ gRow c (G.length - 1) k (G.getD k []) (c ^ (G.length - 1)) := by simp [gAll, List.range_succ]
theorem mem_gRow {c m g : Nat} {r : List UInt8} {n : Nat} {p : Gue} : p ∈ gRow c m g r n ↔ ∃ i, i < n ∧ p = ((g, dgs c m i), hv (r.getD i 0)) := by
  unfold gRow
  simp only [List.mem_map, List.mem_range]
  exact ⟨fun ⟨i, h, e⟩ => ⟨i, h, e.symm⟩, fun ⟨i, h, e⟩ => ⟨i, h, e.symm⟩⟩
theorem mem_gAll {c : Nat} {G : List (List UInt8)} {k : Nat} {p : Gue} : p ∈ gAll c G k ↔ ∃ g i, g < k ∧ i < c ^ (G.length - 1) ∧ p = ((g, dgs c (G.length - 1) i), hv ((G.getD g []).getD i 0)) := by
  unfold gAll
  simp only [List.mem_flatMap, List.mem_range, mem_gRow]
  exact ⟨fun ⟨g, h, i, hi, e⟩ => ⟨g, i, h, hi, e⟩, fun ⟨g, i, h, hi, e⟩ => ⟨g, h, i, hi, e⟩⟩
theorem dgs_inj {c m : Nat} (h2 : 2 ≤ c) (h3 : c ≤ 3) (hm : m ≤ 3) {i j : Nat} (hi : i < c ^ m) (hj : j < c ^ m) (e : dgs c m i = dgs c m j) : i = j := by
  have key : ([2, 3] : List Nat).all (fun c => (List.range 4).all fun m => (List.range (c ^ m)).all fun i => (List.range (c ^ m)).all fun j => decide (dgs c m i = dgs c m j → i = j)) = true := by decide +kernel
  have h4 := List.all_eq_true.1 key c (by simp; omega)
  have h5 := List.all_eq_true.1 h4 m (by simp; omega)
  have h6 := List.all_eq_true.1 (List.all_eq_true.1 h5 i (by simpa using hi)) j (by simpa using hj)
  exact of_decide_eq_true h6 e
end Go.Am
namespace Go.Proofs.YthlgknjipoackaaDoor
open Go.Am Go.WideMaps
attribute [local irreducible] AW Outs Weak Lends Lend Sp aops atree aop1 Then Round InBlock Done

theorem view_law : KeyLaw Tryd.prog 59 := deep_law (m := 2) (by omega) (by kernel_rfl) (by kernel_rfl) (by kernel_rfl)
theorem view_type : Tryd.prog.keyType 59 = true := by kernel_rfl
theorem view_cells : Tryd.prog.cellsOf 59 = 2 := by kernel_rfl
theorem vtypes_size : ∃ m, Tryd.prog.types.size = m + 1 := ⟨Tryd.prog.types.size - 1, by kernel_rfl⟩
theorem vint_under : Tryd.prog.underlying 3 = some (.int .i64) := by kernel_rfl
theorem vint_cells : Tryd.prog.cellsOf 3 = 1 := by kernel_rfl
theorem vstr_under : Tryd.prog.underlying 9 = some .string := by kernel_rfl
theorem vstr_cells : Tryd.prog.cellsOf 9 = 1 := by kernel_rfl
theorem vlits_int {a : Int} (ha : (Lit.int .i64 a).wf = true) (m : Nat) : Tryd.prog.keyLits (m + 1) 3 [.int .i64 a] = some [.int .i64 a] := by
  unfold Program.keyLits
  simp [vint_under, ha]
theorem vlits_str {t : List UInt8} (ha : t.length ≤ maxLen) (m : Nat) : Tryd.prog.keyLits (m + 1) 9 [.string ⟨t.toArray⟩] = some [.string t] := by
  have h : (⟨t.toArray⟩ : ByteArray).size ≤ maxLen := by show t.toArray.size ≤ _; simpa using ha
  unfold Program.keyLits
  simp [vstr_under, h]
theorem key_view {g : Nat} {t : List UInt8} (hg : g < 1000) (ht : t.length < 1000) : ∃ l, keyOf Tryd.prog 59 (keyV g t) = some l := by
  obtain ⟨m, hm⟩ := vtypes_size
  have ha : (Lit.int .i64 (g : Int)).wf = true := by simp [Lit.wf, IntKind.min, IntKind.max, IntKind.signed, IntKind.bits]; omega
  have hb : t.length ≤ maxLen := by simp [maxLen]; omega
  unfold keyOf keyV
  rw [Tryd.underlying59]
  simp only [view_type, Bool.true_and]
  rw [if_pos (by simp [Value.formed, Tryd.underlying59, view_cells]), hm]
  unfold Program.keyLits
  simp [Tryd.underlying59, Value.cells, view_cells, vint_cells, vstr_cells, vlits_int ha, vlits_str hb]
/-- Guesses of few guests. -/
def Few (l : List Gue) : Prop := ∀ p ∈ l, p.1.1 < 1000 ∧ p.1.2.length < 1000
theorem few_keys {l : List Gue} (h : Few l) : ∀ e ∈ (esV l).toList, ∃ q, keyOf Tryd.prog 59 e.key = some q := by
  intro e he
  obtain ⟨p, hp, hk, _⟩ := mem_esV he
  rw [hk]
  exact key_view (h p hp).1 (h p hp).2
/-- A view that is not in a map is put into it. -/
theorem m_putView {own : Bool} {s : AS} {K : AS → Prop} {x i y : Opd} {r : Nat} {l : List Gue} {g v : Nat} {t : List UInt8} (h : Few l) (hx : s.ev x = .mp r) (hr : s.hp r = some (true, [.ob (.map (esV l) l.length)])) (hi : exV (s.ev i) = some (keyV g t)) (hy : s.ev y = .i (v : Nat))
    (hg : g < 1000) (ht : t.length < 1000) (hn : ∀ p ∈ l, p.1 ≠ (g, t)) (k : K (s.mem r (true, [.ob (.map (esV (l ++ [((g, t), v)])) (l ++ [((g, t), v)]).length)]))) : aop1 Tryd.prog own ⟨none, .mputk 59 x i y, none⟩ s K := by
  refine m_mputk view_law hx hr hi hy (key_view hg ht) (few_keys h) ?_ ?_
  · intro e he hk
    obtain ⟨p, hp, h1, _⟩ := mem_esV he
    rw [h1] at hk
    obtain ⟨e1, e2⟩ := keyV_inj hk
    exact hn p hp (Prod.ext e1 e2)
  · rw [show l.length + 1 = (l ++ [((g, t), v)]).length by simp]
    rw [← esV_push l ((g, t), v)] at k
    exact k
/-- A view that is in a map is asked for. -/
theorem m_getView {own : Bool} {d : Option Nat} {s : AS} {K : AS → Prop} {x i : Opd} {l : List Gue} {g v : Nat} {t : List UInt8} (h : Few l) (hm : MapAt s (s.ev x) (esV l) l.length) (hi : exV (s.ev i) = some (keyV g t)) (hg : g < 1000) (ht : t.length < 1000)
    (hin : ((g, t), v) ∈ l) (huq : ∀ p ∈ l, p.1 = (g, t) → p.2 = v) (k : K (s.put d (.i (v : Nat)))) : aop1 Tryd.prog own ⟨d, .mgetk 59 (.int .i64 0) false x i, none⟩ s K := by
  refine m_mgetk view_law hm hi (key_view hg ht) (few_keys h) ?_ ?_ k
  · intro e he hk
    obtain ⟨p, hp, h1, h2⟩ := mem_esV he
    rw [h1] at hk
    obtain ⟨e1, e2⟩ := keyV_inj hk
    rw [h2, huq p hp (Prod.ext e1 e2)]
    rfl
  · intro hno
    obtain ⟨e, he, hk⟩ := has_esV hin
    exact absurd hk (hno e he)
end Go.Proofs.YthlgknjipoackaaDoor
