/- From a law's arguments to the machine's values: slices of whatever is read, rows of integers, strings, structs. -/
import Derived.Test.YtphbbmjhgjjiiaaDoorAmN
import Derived.Deep.Slices
namespace Go.Am
open Go.ChangeShapes Go.WideShapes Go.ChangeAt Go.RowKit Go.ChangeMaps
variable {P : Program} {H : Type} {enc : TypeId × Value → H}

/-- A cell of a list of rows of one length. -/
theorem flat_get {α : Type} (z : Nat) (hz : 0 < z) : ∀ (rs : List (List α)) (_ : ∀ r ∈ rs, r.length = z) (p : Nat), rs.flatten[p]? = (rs[p / z]?).bind (·[p % z]?)
  | [], _, p => by simp
  | r :: rs, h, p => by
    have hr := h r (List.mem_cons_self ..)
    rw [List.flatten_cons]
    by_cases hp : p < z
    · rw [List.getElem?_append_left (by omega), Nat.div_eq_of_lt hp, Nat.mod_eq_of_lt hp]; rfl
    · have h1 : p / z = (p - z) / z + 1 := by rw [Nat.div_eq_sub_div hz (by omega)]
      have h2 : p % z = (p - z) % z := Nat.mod_eq_sub_mod (by omega)
      rw [List.getElem?_append_right (by omega), hr, flat_get z hz rs (fun x hx => h x (List.mem_cons_of_mem _ hx)), h1, h2]; rfl

/-- A slice whose elements are read as Q says. -/
theorem read_slice {W : World} {t e : TypeId} {z : Nat} (ht : P.underlying t = some (.slice e)) (hc : P.cellsOf e = z) (hz : 0 < z) (Q : List AV → Prop)
    (hQ : ∀ fuel cs (x : DataW H × List MemPlace), DataW.trod enc P W 0 (fun _ => true) true fuel e cs = some x → ∃ l, Q l ∧ l.length = z ∧ SimL l (Outer W) cs)
    {fuel : Nat} {cs : List Value} {x : DataW H × List MemPlace} (h : DataW.trod enc P W 0 (fun _ => true) true fuel t cs = some x) :
    ∃ ls : List (List AV), (∀ l ∈ ls, Q l ∧ l.length = z) ∧ ls.length ≤ maxLen ∧ SimL [.ro false z ls.flatten ls.length] (Outer W) cs := by
  rcases Go.Deep.open_slice ht h with ⟨rfl, _⟩ | ⟨a, len, cap, m, n, D, Pl, rfl, hb, hl, hm, hmm, rfl, hx⟩
  · refine ⟨[], by simp, by simp, ?_⟩
    simp only [SimL, SimV, and_true]
    exact .inl ⟨rfl, rfl, none, 0, rfl, by simp⟩
  · rw [hc] at hx
    simp only [if_true] at hmm
    have each : ∀ i, i < len → ∃ l : List AV, Q l ∧ l.length = z ∧ ∃ cs', W.cells? 0 (a.add (i * z)) z = some cs' ∧ SimL l (Outer W) cs' := fun i hi => by
      obtain ⟨cs', h1, h2⟩ := hx i (by omega)
      obtain ⟨l, h3, h4, h5⟩ := hQ n cs' _ h2
      exact ⟨l, h3, h4, cs', h1, h5⟩
    obtain ⟨f, hf⟩ := Go.Deep.choose_lt each
    have hll : ((List.range len).map f).length = len := by simp
    have hrow : ∀ l ∈ (List.range len).map f, Q l ∧ l.length = z := fun l hl' => by
      simp only [List.mem_map, List.mem_range] at hl'
      obtain ⟨i, hi, rfl⟩ := hl'
      exact ⟨(hf i hi).1, (hf i hi).2.1⟩
    refine ⟨(List.range len).map f, hrow, by rw [hll]; omega, ?_⟩
    simp only [SimL, SimV, and_true]
    rw [hll]
    by_cases h0 : len = 0
    · subst h0
      exact .inl ⟨rfl, rfl, _, cap, rfl, by simp⟩
    · obtain ⟨cs0, hcs0, _⟩ := (hf 0 (by omega)).2.2
      rw [Nat.zero_mul] at hcs0
      obtain ⟨_, hlen0, hcell0⟩ := World.cells?_some hcs0
      have hc0 := hcell0 0 hz
      rw [show (a.add 0).add 0 = a from rfl, List.getElem?_eq_getElem (by omega)] at hc0
      have hspot : a.spot = none ∧ ∃ cur e f, W.heap[a.block]? = some (.cells cur e f) := by
        unfold World.cell? at hc0
        split at hc0
        · rename_i c e' f hb
          split at hc0
          · cases hc0
          · rename_i hs
            exact ⟨by simpa using hs, c, e', f, hb⟩
        · cases hc0
      obtain ⟨hs, cur, e', fz, hbk⟩ := hspot
      obtain ⟨b, o, sp⟩ := a
      simp only at hs hbk
      subst hs
      have hflen : ((List.range len).map f).flatten.length = len * z := by
        rw [List.length_flatten]
        have : ((List.range len).map f).map List.length = List.replicate len z := by
          apply List.ext_getElem?
          intro i
          by_cases hi : i < len
          · simp [hi, (hf i hi).2.1]
          · simp [hi]
        rw [this, List.sum_replicate_nat]
      refine .inr ⟨b, o, cap, cur, e', fz, rfl, hbk, lt_of_get hbk, by rw [hflen], hl, by simp, ?_⟩
      refine SimL.of_get fun p x hp => ?_
      have hp1 := (List.getElem?_eq_some_iff.1 hp).1
      rw [hflen] at hp1
      rw [flat_get z hz _ fun l hl' => (hrow l hl').2] at hp
      have hi : p / z < len := Nat.div_lt_of_lt_mul (by rw [Nat.mul_comm]; exact hp1)
      have hj : p % z < z := Nat.mod_lt _ hz
      rw [List.getElem?_map, List.getElem?_range hi] at hp
      obtain ⟨_, _, cs', h1, h2⟩ := hf (p / z) hi
      obtain ⟨y, h3, h4⟩ := SimL.get h2 hp
      obtain ⟨_, hlen', hcell'⟩ := World.cells?_some h1
      have h5 := hcell' (p % z) hj
      rw [h3, Go.Deep.add_add, show p / z * z + p % z = p by rw [Nat.mul_comm]; exact Nat.div_add_mod p z] at h5
      refine ⟨y, ?_, h4⟩
      rw [addr_add, cell_of_row W b (o + p) cur e' fz hbk] at h5
      rw [List.getElem?_drop, Array.getElem?_toList]
      exact h5

/-- An integer's cell. -/
theorem read_int {W : World} {t : TypeId} (ht : P.underlying t = some (.int .i64)) {fuel : Nat} {cs : List Value} {x : DataW H × List MemPlace} (h : DataW.trod enc P W 0 (fun _ => true) true fuel t cs = some x) :
    ∃ n : Int, (-9223372036854775808 ≤ n ∧ n ≤ 9223372036854775807) ∧ SimL [AV.i n] (Outer W) cs := by
  obtain ⟨n, rfl, _, hw⟩ := DataW.trod_int ht h
  simp [Lit.wf, IntKind.min, IntKind.max, IntKind.signed, IntKind.bits] at hw
  exact ⟨n, by omega, by simp [SimL, SimV]⟩
/-- A string's cell. -/
theorem read_str {W : World} {t : TypeId} (ht : P.underlying t = some .string) {fuel : Nat} {cs : List Value} {x : DataW H × List MemPlace} (h : DataW.trod enc P W 0 (fun _ => true) true fuel t cs = some x) :
    ∃ b : ByteArray, b.size ≤ maxLen ∧ SimL [AV.v (.string b)] (Outer W) cs := by
  obtain ⟨b, rfl, _, hw⟩ := DataW.trod_string ht h
  exact ⟨b, hw, by simp [SimL, SimV]⟩
/-- Out of one-cell rows their cells. -/
theorem rows_one {α : Type} {g : α → AV} {R : α → Prop} : ∀ {ls : List (List AV)}, (∀ l ∈ ls, ∃ a, l = [g a] ∧ R a) → ∃ L : List α, ls.flatten = L.map g ∧ ls.length = L.length ∧ ∀ a ∈ L, R a
  | [], _ => ⟨[], rfl, rfl, by simp⟩
  | l :: ls, h => by
    obtain ⟨a, rfl, ha⟩ := h l (List.mem_cons_self ..)
    obtain ⟨L, h1, h2, h3⟩ := rows_one (ls := ls) fun x hx => h x (List.mem_cons_of_mem _ hx)
    refine ⟨a :: L, by rw [List.flatten_cons, h1]; rfl, by simp [h2], fun x hx => ?_⟩
    rcases List.mem_cons.1 hx with rfl | hx
    · exact ha
    · exact h3 x hx
/-- A slice of integers. -/
theorem read_ints {W : World} {t e : TypeId} (ht : P.underlying t = some (.slice e)) (he : P.underlying e = some (.int .i64)) (hc : P.cellsOf e = 1) {fuel : Nat} {cs : List Value} {x : DataW H × List MemPlace}
    (h : DataW.trod enc P W 0 (fun _ => true) true fuel t cs = some x) : ∃ L : List Int, (L.length ≤ maxLen ∧ ∀ x ∈ L, -9223372036854775808 ≤ x ∧ x ≤ 9223372036854775807) ∧ SimL [ints L] (Outer W) cs := by
  obtain ⟨ls, h1, h2, h3⟩ := read_slice ht hc (by decide) (fun l => ∃ n : Int, l = [AV.i n] ∧ (-9223372036854775808 ≤ n ∧ n ≤ 9223372036854775807)) (fun fuel cs x hx => by
    obtain ⟨n, h4, h5⟩ := read_int he hx
    exact ⟨_, ⟨n, rfl, h4⟩, rfl, h5⟩) h
  obtain ⟨L, h4, h5, h6⟩ := rows_one fun l hl => (h1 l hl).1
  rw [h4, h5] at h3
  exact ⟨L, ⟨by omega, h6⟩, h3⟩
/-- Rows of integers. -/
theorem read_intss {W : World} {t e i : TypeId} (ht : P.underlying t = some (.slice e)) (he : P.underlying e = some (.slice i)) (hi : P.underlying i = some (.int .i64)) (hc : P.cellsOf e = 1) (hci : P.cellsOf i = 1) {fuel : Nat} {cs : List Value} {x : DataW H × List MemPlace}
    (h : DataW.trod enc P W 0 (fun _ => true) true fuel t cs = some x) : ∃ M : List (List Int), (M.length ≤ maxLen ∧ ∀ L ∈ M, L.length ≤ maxLen ∧ ∀ x ∈ L, -9223372036854775808 ≤ x ∧ x ≤ 9223372036854775807) ∧ SimL [.ro false 1 (M.map ints) M.length] (Outer W) cs := by
  obtain ⟨ls, h1, h2, h3⟩ := read_slice ht hc (by decide) (fun l => ∃ L : List Int, l = [ints L] ∧ (L.length ≤ maxLen ∧ ∀ x ∈ L, -9223372036854775808 ≤ x ∧ x ≤ 9223372036854775807)) (fun fuel cs x hx => by
    obtain ⟨n, h4, h5⟩ := read_ints he hi hci hx
    exact ⟨_, ⟨n, rfl, h4⟩, rfl, h5⟩) h
  obtain ⟨L, h4, h5, h6⟩ := rows_one fun l hl => (h1 l hl).1
  rw [h4, h5] at h3
  exact ⟨L, ⟨by omega, h6⟩, h3⟩
/-- Strings. -/
theorem read_strs {W : World} {t e : TypeId} (ht : P.underlying t = some (.slice e)) (he : P.underlying e = some .string) (hc : P.cellsOf e = 1) {fuel : Nat} {cs : List Value} {x : DataW H × List MemPlace}
    (h : DataW.trod enc P W 0 (fun _ => true) true fuel t cs = some x) : ∃ M : List ByteArray, (M.length ≤ maxLen ∧ ∀ b ∈ M, b.size ≤ maxLen) ∧ SimL [.ro false 1 (M.map fun b => AV.v (.string b)) M.length] (Outer W) cs := by
  obtain ⟨ls, h1, h2, h3⟩ := read_slice ht hc (by decide) (fun l => ∃ b : ByteArray, l = [AV.v (.string b)] ∧ b.size ≤ maxLen) (fun fuel cs x hx => by
    obtain ⟨n, h4, h5⟩ := read_str he hx
    exact ⟨_, ⟨n, rfl, h4⟩, rfl, h5⟩) h
  obtain ⟨L, h4, h5, h6⟩ := rows_one fun l hl => (h1 l hl).1
  rw [h4, h5] at h3
  exact ⟨L, ⟨by omega, h6⟩, h3⟩

/-- Rows of integers that came in. -/
theorem arg_intss {W : World} {t e i : TypeId} {v : Value} {d : DataW H} {ps : List MemPlace} (ht : P.underlying t = some (.slice e)) (he : P.underlying e = some (.slice i)) (hi : P.underlying i = some (.int .i64)) (hc : P.cellsOf e = 1) (hci : P.cellsOf i = 1)
    (hval : Value.okWide P W .any 0 t v) (h : DataW.Trod enc P W 0 (fun _ => true) true t v d ps) : ∃ M : List (List Int), SimV (.ro false 1 (M.map ints) M.length) (Outer W) v ∧ M.length ≤ maxLen ∧ ∀ L ∈ M, L.length ≤ maxLen ∧ ∀ x ∈ L, -9223372036854775808 ≤ x ∧ x ≤ 9223372036854775807 := by
  obtain ⟨a0, len0, cap0, rfl⟩ := okWide_slice ht hval
  obtain ⟨fuel, hf⟩ := h
  obtain ⟨M, h1, h2⟩ := read_intss ht he hi hc hci hf
  refine ⟨M, ?_, h1⟩
  simpa [Value.cells, SimL] using h2
end Go.Am
