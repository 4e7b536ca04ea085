/- From a law's arguments to the machine's values: clues; puzzles. -/
import Derived.Test.YtjgcmbihbeokeaaDoorZq4
import Derived.ChangeSame
import Derived.Deep.Slices
namespace Go.Am
open Go.ChangeShapes Go.WideShapes Go.ChangeAt Go.RowKit Go.ChangeMaps
variable {P : Program} {H : Type} {enc : TypeId × Value → H}

theorem flat_get {α : Type} (z : Nat) (hz : 0 < z) : ∀ (rs : List (List α)) (_ : ∀ r ∈ rs, r.length = z) (p : Nat), rs.flatten[p]? = (rs[p / z]?).bind (·[p % z]?)
  | [], _, p => by simp
  | r :: rs, h, p => by
    have hr := h r (List.mem_cons_self ..)
    rw [List.flatten_cons]
    by_cases hp : p < z
    · rw [List.getElem?_append_left (by omega), Nat.div_eq_of_lt hp, Nat.mod_eq_of_lt hp]; rfl
    · have h1 : p / z = (p - z) / z + 1 := by rw [Nat.div_eq_sub_div hz (by omega)]
      have h2 : p % z = (p - z) % z := Nat.mod_eq_sub_mod (by omega)
      rw [List.getElem?_append_right (by omega), hr, flat_get z hz rs (fun x hx => h x (List.mem_cons_of_mem _ hx)), h1, h2]; rfl
theorem read_int {W : World} {t : TypeId} (ht : P.underlying t = some (.int .i64)) {fuel : Nat} {cs : List Value} {x : DataW H × List MemPlace} (h : DataW.trod enc P W 0 (fun _ => true) true fuel t cs = some x) :
    ∃ n : Int, (-9223372036854775808 ≤ n ∧ n ≤ 9223372036854775807) ∧ SimL [AV.i n] (Outer W) cs := by
  obtain ⟨n, rfl, _, hw⟩ := DataW.trod_int ht h
  simp [Lit.wf, IntKind.min, IntKind.max, IntKind.signed, IntKind.bits] at hw
  exact ⟨n, by omega, by simp [SimL, SimV]⟩
theorem read_slice {W : World} {t e : TypeId} {z : Nat} (ht : P.underlying t = some (.slice e)) (hc : P.cellsOf e = z) (hz : 0 < z) (Q : List AV → Prop)
    (hQ : ∀ fuel cs (x : DataW H × List MemPlace), DataW.trod enc P W 0 (fun _ => true) true fuel e cs = some x → ∃ l, Q l ∧ l.length = z ∧ SimL l (Outer W) cs)
    {fuel : Nat} {cs : List Value} {x : DataW H × List MemPlace} (h : DataW.trod enc P W 0 (fun _ => true) true fuel t cs = some x) :
    ∃ ls : List (List AV), (∀ l ∈ ls, Q l ∧ l.length = z) ∧ ls.length ≤ maxLen ∧ SimL [.ro false z ls.flatten ls.length] (Outer W) cs := by
  rcases Go.Deep.open_slice ht h with ⟨rfl, _⟩ | ⟨a, len, cap, m, n, D, Pl, rfl, hb, hl, hm, hmm, rfl, hx⟩
  · refine ⟨[], by simp, by simp, ?_⟩
    simp only [SimL, SimV, and_true]
    exact .inl ⟨rfl, rfl, none, 0, rfl, by simp⟩
  · rw [hc] at hx
    simp only [if_true] at hmm
    have each : ∀ i, i < len → ∃ l : List AV, Q l ∧ l.length = z ∧ ∃ cs', W.cells? 0 (a.add (i * z)) z = some cs' ∧ SimL l (Outer W) cs' := fun i hi => by
      obtain ⟨cs', h1, h2⟩ := hx i (by omega)
      obtain ⟨l, h3, h4, h5⟩ := hQ n cs' _ h2
      exact ⟨l, h3, h4, cs', h1, h5⟩
    obtain ⟨f, hf⟩ := Go.Deep.choose_lt each
    have hll : ((List.range len).map f).length = len := by simp
    have hrow : ∀ l ∈ (List.range len).map f, Q l ∧ l.length = z := fun l hl' => by
      simp only [List.mem_map, List.mem_range] at hl'
      obtain ⟨i, hi, rfl⟩ := hl'
      exact ⟨(hf i hi).1, (hf i hi).2.1⟩
    refine ⟨(List.range len).map f, hrow, by rw [hll]; omega, ?_⟩
    simp only [SimL, SimV, and_true]
    rw [hll]
    by_cases h0 : len = 0
    · subst h0
      exact .inl ⟨rfl, rfl, _, cap, rfl, by simp⟩
    · obtain ⟨cs0, hcs0, _⟩ := (hf 0 (by omega)).2.2
      rw [Nat.zero_mul] at hcs0
      obtain ⟨_, hlen0, hcell0⟩ := World.cells?_some hcs0
      have hc0 := hcell0 0 hz
      rw [show (a.add 0).add 0 = a from rfl, List.getElem?_eq_getElem (by omega)] at hc0
      have hspot : a.spot = none ∧ ∃ cur e f, W.heap[a.block]? = some (.cells cur e f) := by
        unfold World.cell? at hc0
        split at hc0
        · rename_i c e' f hb
          split at hc0
          · cases hc0
          · rename_i hs
            exact ⟨by simpa using hs, c, e', f, hb⟩
        · cases hc0
      obtain ⟨hs, cur, e', fz, hbk⟩ := hspot
      obtain ⟨b, o, sp⟩ := a
      simp only at hs hbk
      subst hs
      have hflen : ((List.range len).map f).flatten.length = len * z := by
        rw [List.length_flatten]
        have : ((List.range len).map f).map List.length = List.replicate len z := by
          apply List.ext_getElem?
          intro i
          by_cases hi : i < len
          · simp [hi, (hf i hi).2.1]
          · simp [hi]
        rw [this, List.sum_replicate_nat]
      refine .inr ⟨b, o, cap, cur, e', fz, rfl, hbk, lt_of_get hbk, by rw [hflen], hl, by simp, ?_⟩
      refine SimL.of_get fun p x hp => ?_
      have hp1 := (List.getElem?_eq_some_iff.1 hp).1
      rw [hflen] at hp1
      rw [flat_get z hz _ fun l hl' => (hrow l hl').2] at hp
      have hi : p / z < len := Nat.div_lt_of_lt_mul (by rw [Nat.mul_comm]; exact hp1)
      have hj : p % z < z := Nat.mod_lt _ hz
      rw [List.getElem?_map, List.getElem?_range hi] at hp
      obtain ⟨_, _, cs', h1, h2⟩ := hf (p / z) hi
      obtain ⟨y, h3, h4⟩ := SimL.get h2 hp
      obtain ⟨_, hlen', hcell'⟩ := World.cells?_some h1
      have h5 := hcell' (p % z) hj
      rw [h3, Go.Deep.add_add, show p / z * z + p % z = p by rw [Nat.mul_comm]; exact Nat.div_add_mod p z] at h5
      refine ⟨y, ?_, h4⟩
      rw [addr_add, cell_of_row W b (o + p) cur e' fz hbk] at h5
      rw [List.getElem?_drop, Array.getElem?_toList]
      exact h5
/-- What a struct of three integers is to the program. -/
structure IsC3 (P : Program) (t : TypeId) (f0 f1 f2 : Field) : Prop where
  ht : P.underlying t = some (.struct #[f0, f1, f2])
  h0 : P.underlying f0.type = some (.int .i64)
  h1 : P.underlying f1.type = some (.int .i64)
  h2 : P.underlying f2.type = some (.int .i64)
  o0 : f0.offset = 0
  o1 : f1.offset = 1
  o2 : f2.offset = 2
  c0 : P.cellsOf f0.type = 1
  c1 : P.cellsOf f1.type = 1
  c2 : P.cellsOf f2.type = 1
  hsz : P.cellsOf t = 3

theorem read_clu {W : World} {t : TypeId} {f0 f1 f2 : Field} (hc : IsC3 P t f0 f1 f2) {fuel : Nat} {cs : List Value} {x : DataW H × List MemPlace} (h : DataW.trod enc P W 0 (fun _ => true) true fuel t cs = some x) :
    ∃ c : Clu, SimL (cC c) (Outer W) cs ∧ cs.length = 3 := by
  obtain ⟨xs, n, _, rfl, hl, hlen, hf⟩ := DataW.trod_struct hc.ht h
  rw [hc.hsz] at hl
  have g0 := hf 0 f0 rfl
  have g1 := hf 1 f1 rfl
  have g2 := hf 2 f2 rfl
  have hlen' : xs.length = 3 := by simpa using hlen
  match xs, hlen' with
  | [y0, y1, y2], _ =>
    simp only [hc.o0, hc.o1, hc.o2, hc.c0, hc.c1, hc.c2] at g0 g1 g2
    match cs, hl with
    | [p, q, r], _ =>
      obtain ⟨a, _, s0⟩ := read_int hc.h0 (by simpa using g0)
      obtain ⟨b, _, s1⟩ := read_int hc.h1 (by simpa using g1)
      obtain ⟨c, _, s2⟩ := read_int hc.h2 (by simpa using g2)
      simp only [SimL, and_true] at s0 s1 s2
      exact ⟨(a, b, c), by simp only [cC, SimL, and_true]; exact ⟨s0, s1, s2⟩, rfl⟩

theorem rows_clu : ∀ {ls : List (List AV)}, (∀ l ∈ ls, ∃ c : Clu, l = cC c) → ∃ C : List Clu, ls.flatten = cls C ∧ ls.length = C.length
  | [], _ => ⟨[], rfl, rfl⟩
  | l :: ls, h => by
    obtain ⟨a, rfl⟩ := h l (List.mem_cons_self ..)
    obtain ⟨L, h1, h2⟩ := rows_clu (ls := ls) fun x hx => h x (List.mem_cons_of_mem _ hx)
    exact ⟨a :: L, by rw [List.flatten_cons, h1]; rfl, by simp [h2]⟩

theorem read_clus {W : World} {t e : TypeId} {f0 f1 f2 : Field} (ht : P.underlying t = some (.slice e)) (hc : IsC3 P e f0 f1 f2) {fuel : Nat} {cs : List Value} {x : DataW H × List MemPlace}
    (h : DataW.trod enc P W 0 (fun _ => true) true fuel t cs = some x) : ∃ C : List Clu, C.length ≤ maxLen ∧ SimL [.ro false 3 (cls C) C.length] (Outer W) cs := by
  obtain ⟨ls, h1, h2, h3⟩ := read_slice ht hc.hsz (by decide) (fun l => ∃ c : Clu, l = cC c) (fun fuel cs x hx => by
    obtain ⟨c, h4, h5⟩ := read_clu hc hx
    exact ⟨_, ⟨c, rfl⟩, rfl, h4⟩) h
  obtain ⟨C, h4, h5⟩ := rows_clu fun l hl => (h1 l hl).1
  rw [h4, h5] at h3
  exact ⟨C, by omega, h3⟩

theorem arg_clu {W : World} {t : TypeId} {f0 f1 f2 : Field} {v : Value} {d : DataW H} {ps : List MemPlace} (hc : IsC3 P t f0 f1 f2) (hval : Value.okWide P W .any 0 t v) (h : DataW.Trod enc P W 0 (fun _ => true) true t v d ps) :
    ∃ c : Clu, SimV (.agg [.i c.1, .i c.2.1, .i c.2.2]) (Outer W) v ∧ True ∧ True := by
  obtain ⟨cs, rfl, hcs⟩ := okWide_struct hc.ht hval
  obtain ⟨fuel, hf⟩ := h
  obtain ⟨c, h1, h2⟩ := read_clu hc hf
  refine ⟨c, ?_, trivial, trivial⟩
  simp only [SimV]
  rw [hc.hsz] at hcs
  exact ⟨cs, rfl, hcs, by simpa [Value.cells, cC] using h1⟩

theorem arg_pzl {W : World} {t e : TypeId} {f0 f1 g0 g1 g2 : Field} {v : Value} {d : DataW H} {ps : List MemPlace} (ht : P.underlying t = some (.struct #[f0, f1])) (h0 : P.underlying f0.type = some (.int .i64)) (h1 : P.underlying f1.type = some (.slice e)) (he : IsC3 P e g0 g1 g2)
    (hsz : P.cellsOf t = 2) (ho : f0.offset = 0 ∧ P.cellsOf f0.type = 1 ∧ f1.offset = 1 ∧ P.cellsOf f1.type = 1) (hval : Value.okWide P W .any 0 t v) (h : DataW.Trod enc P W 0 (fun _ => true) true t v d ps) :
    ∃ x : Int × List Clu, SimV (pzl x.1 x.2) (Outer W) v ∧ x.2.length ≤ 9223372036854775807 ∧ (-9223372036854775808 ≤ x.1 ∧ x.1 ≤ 9223372036854775807) := by
  obtain ⟨cs, rfl, hcs⟩ := okWide_struct ht hval
  obtain ⟨fuel, hf⟩ := h
  obtain ⟨y0, y1, n, _, hl, hd0, hd1⟩ := trod_struct2 ht hf
  obtain ⟨e1, e2, e3, e4⟩ := ho
  rw [e1, e2] at hd0
  rw [e3, e4] at hd1
  obtain ⟨c, hb, s0⟩ := read_int h0 hd0
  obtain ⟨C, hM, s1⟩ := read_clus h1 he hd1
  rw [hsz] at hcs
  refine ⟨(c, C), ?_, Nat.le_trans hM (by decide), hb⟩
  simp only [SimV]
  refine ⟨cs, rfl, hcs, ?_⟩
  obtain ⟨l⟩ := cs
  match l with
  | [] => simp at hcs
  | [_] => simp at hcs
  | _ :: _ :: _ :: _ => simp at hcs
  | [p, q] =>
    simp only [Value.cells, List.drop_zero, List.take_succ_cons, List.take_zero, List.drop_succ_cons, SimL, and_true] at s0 s1 ⊢
    exact ⟨s0, s1⟩
end Go.Am
