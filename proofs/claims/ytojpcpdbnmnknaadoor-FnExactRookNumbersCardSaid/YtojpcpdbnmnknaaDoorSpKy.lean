/- Contracts: places as keys of a map. -/
import Derived.Test.YtojpcpdbnmnknaaDoorSpGd
import Derived.DeepKeys3
namespace Go.Proofs.YtojpcpdbnmnknaaDoor
open Go.Am Go.WideMaps

theorem place_law : KeyLaw Tryd.prog 63 := deep_law (m := 2) (by omega) (by kernel_rfl) (by kernel_rfl) (by kernel_rfl)
theorem place_type : Tryd.prog.keyType 63 = true := by kernel_rfl
theorem place_cells : Tryd.prog.cellsOf 63 = 2 := by kernel_rfl
theorem types_size : ∃ m, Tryd.prog.types.size = m + 1 := ⟨Tryd.prog.types.size - 1, by kernel_rfl⟩
theorem int_under : Tryd.prog.underlying 3 = some (.int .i64) := by kernel_rfl
theorem int_cells : Tryd.prog.cellsOf 3 = 1 := by kernel_rfl
theorem lits_int {a : Int} (ha : (Lit.int .i64 a).wf = true) (m : Nat) : Tryd.prog.keyLits (m + 1) 3 [.int .i64 a] = some [.int .i64 a] := by
  unfold Program.keyLits
  simp [int_under, ha]
theorem key_place {a b : Int} (ha : (Lit.int .i64 a).wf = true) (hb : (Lit.int .i64 b).wf = true) : ∃ l, keyOf Tryd.prog 63 (keyP a b) = some l := by
  obtain ⟨m, hm⟩ := types_size
  unfold keyOf keyP
  rw [Tryd.underlying63]
  simp only [place_type, Bool.true_and]
  rw [if_pos (by simp [Value.formed, Tryd.underlying63, place_cells]), hm]
  unfold Program.keyLits
  simp [Tryd.underlying63, Value.cells, place_cells, int_cells, lits_int ha, lits_int hb]
theorem wf_int {a : Int} (h1 : -9223372036854775808 ≤ a) (h2 : a ≤ 9223372036854775807) : (Lit.int .i64 a).wf = true := by
  simp [Lit.wf, IntKind.min, IntKind.max, IntKind.signed, IntKind.bits, h1, h2]
theorem keys_place {l : List (Nat × Nat)} (h : ∀ p ∈ l, p.1 < 1000 ∧ p.2 < 1000) : ∀ e ∈ (mkEs l).toList, ∃ q, keyOf Tryd.prog 63 e.key = some q := by
  intro e he
  obtain ⟨p, hp, hk, _⟩ := mem_mkEs he
  have := h p hp
  rw [hk]
  exact key_place (wf_int (by omega) (by omega)) (wf_int (by omega) (by omega))
/-- A place is asked for in a map of places. -/
theorem m_place {own : Bool} {d : Option Nat} {s : AS} {K : AS → Prop} {x i : Opd} {l : List (Nat × Nat)} {a b : Int} (h : ∀ p ∈ l, p.1 < 1000 ∧ p.2 < 1000) (hm : MapAt s (s.ev x) (mkEs l) l.length) (hi : exV (s.ev i) = some (keyP a b))
    (ha : -9223372036854775808 ≤ a ∧ a ≤ 9223372036854775807) (hb : -9223372036854775808 ≤ b ∧ b ≤ 9223372036854775807) (k : K (s.put d (.b (hasP l a b)))) : aop1 Tryd.prog own ⟨d, .mgetk 63 (.bool false) false x i, none⟩ s K := by
  refine m_mgetk place_law hm hi (key_place (wf_int ha.1 ha.2) (wf_int hb.1 hb.2)) (keys_place h) ?_ ?_ k
  · intro e he hk
    obtain ⟨p, hp, h1, h2⟩ := mem_mkEs he
    rw [h1] at hk
    obtain ⟨e1, e2⟩ := keyP_inj hk
    have : hasP l a b = true := List.any_eq_true.2 ⟨p, hp, by simp [e1, e2]⟩
    rw [h2, this]
    rfl
  · intro hno
    have : hasP l a b = false := by
      rw [Bool.eq_false_iff]
      intro ht
      obtain ⟨p, hp, hpe⟩ := List.any_eq_true.1 ht
      simp only [Bool.and_eq_true, decide_eq_true_eq] at hpe
      obtain ⟨e, he, hk⟩ := has_mkEs hp
      exact hno e he (by rw [hk, hpe.1, hpe.2])
    rw [this]
    rfl
/-- A place that is not in a map is put into it. -/
theorem m_putPlace {own : Bool} {s : AS} {K : AS → Prop} {x i y : Opd} {r : Nat} {l : List (Nat × Nat)} {a b : Nat} (h : ∀ p ∈ l, p.1 < 1000 ∧ p.2 < 1000) (hx : s.ev x = .mp r) (hr : s.hp r = some (true, [.ob (.map (mkEs l) l.length)])) (hi : exV (s.ev i) = some (keyP a b)) (hy : s.ev y = .v (.bool true))
    (ha : a < 1000) (hb : b < 1000) (hn : (a, b) ∉ l) (k : K (s.mem r (true, [.ob (.map (mkEs (l ++ [(a, b)])) (l ++ [(a, b)]).length)]))) : aop1 Tryd.prog own ⟨none, .mputk 63 x i y, none⟩ s K := by
  refine m_mputk place_law hx hr hi hy (key_place (wf_int (by omega) (by omega)) (wf_int (by omega) (by omega))) (keys_place h) ?_ ?_
  · intro e he hk
    obtain ⟨p, hp, h1, _⟩ := mem_mkEs he
    rw [h1] at hk
    obtain ⟨e1, e2⟩ := keyP_inj hk
    have : p = (a, b) := Prod.ext (by omega) (by omega)
    exact hn (this ▸ hp)
  · rw [show l.length + 1 = (l ++ [(a, b)]).length by simp]
    rw [← mkEs_push l (a, b)] at k
    exact k
end Go.Proofs.YtojpcpdbnmnknaaDoor
