/- The abstract machine, contracts: part 6 of what this claim needs. -/
import Derived.Test.YtpohldecllkjbaaZs5
namespace Go.Am
open Go.ChangeShapes Go.WideShapes Go.ChangeAt Go.RowKit Go.ChangeMaps
variable {P : Program} {H : Type} {enc : TypeId × Value → H}
theorem and_mk {a b : Bool} (h : a = true) (k : b = true) : (a && b) = true := by rw [h, k]; rfl
theorem More.below {w w' : World} (h : More w w') : Below w.heap.size w w' := ⟨h.os, h.tape, h.output, h.size, h.block⟩
theorem trodAll_stays (hl : laidOutB P = true) {W W' : World} (hb : Below W.heap.size W W') (sp : Nat → Bool) : ∀ {ts : List TypeId} {vs : List Value} {ds : List (DataW H)} {ps : List MemPlace},
    (∀ t ∈ ts, P.readableRec t = true ∧ t < P.types.size) → DataW.TrodAll enc P W 0 (fun _ => true) true ts vs ds ps → (∀ p ∈ ps, p.block < W.heap.size) → (∀ p ∈ ps, sp p.block = true) →
    DataW.TrodAll enc P W' 0 sp true ts vs ds ps
  | [], vs, ds, ps, _, h, _, _ => by
    obtain ⟨rfl, rfl, rfl⟩ := trodAll_nil h
    exact trodAll_mk0
  | t :: ts, vs, ds, ps, hr, h, hlt, hsp => by
    obtain ⟨v, vs', d, ds', p, q, rfl, rfl, rfl, h1, h2⟩ := trodAll_cons h
    refine ⟨p, q, ?_, trodAll_stays hl hb sp (fun t ht => hr t (List.mem_cons_of_mem _ ht)) h2 (fun x hx => hlt x (List.mem_append_right _ hx)) (fun x hx => hsp x (List.mem_append_right _ hx)), rfl⟩
    obtain ⟨h3, h4⟩ := hr t (List.mem_cons_self ..)
    exact WideElems.Trod_stays hl h3 h4 h1 (fun x hx => hb.same (hlt x (List.mem_append_left _ hx))) (fun x hx => hsp x (List.mem_append_left _ hx))
/-- What the row's last words ask of a law that says true. -/
theorem law_post (hl : laidOutB P = true) {f : Func} {s : ChangeSpec} {fresh handsOn again : Bool} {W W' : World} {args : Array Value} {ds gs : List (DataW H)} {before : List MemPlace} {bt : TypeId}
    (hW : DataW.Whole enc P f.params.toList s.vars false W args.toList ds gs before) (hvars : s.vars = []) (hfn : s.fn H (ds ++ gs) = { results := [.lit (.bool true)], args := ds })
    (hres : f.resultTypes = #[bt]) (hbt : P.underlying bt = some .bool) (hread : ∀ t ∈ f.params.toList, P.readableRec t = true ∧ t < P.types.size) (hm : More W W') :
    s.post enc P f false fresh handsOn again W args (.bool true) W' := by
  have hb := hm.below
  have hlt : ∀ p ∈ before, p.block < W.heap.size := fun p hp => hW.lt p hp
  obtain ⟨p, q, hA, hV, hpq, hz, hn⟩ := hW
  rw [hvars] at hV
  obtain ⟨rfl, rfl⟩ := trodVars_none hV
  rw [List.append_nil] at hpq
  subst hpq
  have hargs : ∀ sp : Nat → Bool, (∀ x ∈ before, sp x.block = true) → DataW.TrodAll enc P W' 0 sp true f.params.toList args.toList ds before := fun sp hsp => trodAll_stays hl hb sp hread hA hlt hsp
  have hresT : ∀ (b : Nat) (sp : Nat → Bool) (hd : Bool), DataW.TrodAll enc P W' b sp hd f.resultTypes.toList ((Value.bool true).resultList f.resultTypes.size) [.lit (.bool true)] [] := by
    intro b sp hd
    rw [hres]
    exact trodAll_mk1 (shut_bool hbt true)
  have hvarsT : ∀ sp : Nat → Bool, DataW.TrodVars enc P W' sp s.vars (s.fn H (ds ++ [])).vars [] := by
    intro sp
    rw [hvars, hfn]
    rfl
  have hfull : DataW.Whole enc P f.params.toList s.vars false W args.toList ds [] before := ⟨before, [], hA, by rw [hvars]; rfl, by simp, hz, by simp⟩
  refine ⟨ds, [], before, [], before, [], hfull, by rw [hfn]; exact hresT _ _ _, by rw [hfn]; exact hargs _ (fun x hx => by simpa using hlt x hx), hvarsT _, World.keptBut_mono (fun x hx => ⟨hx, .inr (.inl hx)⟩) (hb.frame (· ∈ before)), fun _ => ?_⟩
  refine ⟨ok_one hres rfl (okWide_bool_mk hbt true), _, _, ([] ++ before) ++ [], ⟨[] ++ before, [], trodAll_append (hargs _ (fun _ _ => rfl)) (hresT _ _ _), hvarsT _, rfl, ?_, by simp⟩, ?_⟩
  · intro b off hp
    have hin : MemPlace.cell b off ∈ before := by simpa using hp
    rw [hb.frozen (hlt _ hin)]
    exact hz b off hin
  · intro x hx _
    simpa using hx
abbrev Outer (w : World) : Ctx := { heap := w.heap, ro := fun b => b < w.heap.size, base := w.heap.size, phi := fun _ => none, live := fun _ => false, loc := false }
/-- A slice of integers that came in. -/
theorem arg_ints {W : World} {t e : TypeId} {v : Value} {d : DataW H} {ps : List MemPlace} (ht : P.underlying t = some (.slice e)) (he : P.underlying e = some (.int .i64)) (hc : P.cellsOf e = 1)
    (hval : Value.okWide P W .any 0 t v) (h : DataW.Trod enc P W 0 (fun _ => true) true t v d ps) : ∃ L : List Int, SimV (ints L) (Outer W) v ∧ L.length ≤ maxLen ∧ ∀ x ∈ L, -9223372036854775808 ≤ x ∧ x ≤ 9223372036854775807 := by
  obtain ⟨a0, len0, cap0, rfl⟩ := okWide_slice ht hval
  obtain ⟨fuel, hf⟩ := h
  rcases open_ints ht he hc hf with ⟨hcs, _⟩ | ⟨a, len, cap, zs, hcs, _, hl, hm, hz, hx, hcell, hwz⟩
  · simp [Value.cells] at hcs
    obtain ⟨rfl, rfl, rfl⟩ := hcs
    refine ⟨[], ?_, by simp, by simp⟩
    simp only [SimV]
    exact .inl ⟨rfl, rfl, none, 0, rfl, by simp⟩
  · simp [Value.cells] at hcs
    obtain ⟨rfl, rfl, rfl⟩ := hcs
    simp only [if_true] at hz
    have hlz : len0 ≤ zs.length := by omega
    refine ⟨zs.take len0, ?_, by simp; omega, fun x hx => ?_⟩
    · simp only [SimV]
      by_cases h0 : len0 = 0
      · subst h0
        exact .inl ⟨rfl, rfl, _, cap0, rfl, by simp⟩
      · have hc0 := hcell 0 (by omega)
        have hspot : a.spot = none ∧ ∃ cur e f, W.heap[a.block]? = some (.cells cur e f) := by
          unfold World.cell? at hc0
          rw [show a.add 0 = a from rfl] at hc0
          split at hc0
          · rename_i c e' f hb
            split at hc0
            · cases hc0
            · rename_i hs
              exact ⟨by simpa using hs, c, e', f, hb⟩
          · cases hc0
        obtain ⟨hs, cur, e', f, hb⟩ := hspot
        obtain ⟨b, o, sp⟩ := a
        simp only at hs hb
        subst hs
        have hlen : (zs.take len0).length = len0 := by simp; omega
        refine .inr ⟨b, o, cap0, cur, e', f, by rw [hlen], hb, lt_of_get hb, by simp, by rw [hlen]; exact hl, by simp, ?_⟩
        refine SimL.of_get fun i x hi => ?_
        rw [List.getElem?_map, Option.map_eq_some_iff] at hi
        obtain ⟨n, hn, rfl⟩ := hi
        rw [List.getElem?_take] at hn
        split at hn
        · rename_i hi0
          have hci := hcell i (by omega)
          rw [addr_add, cell_of_row W b (o + i) cur e' f hb] at hci
          refine ⟨_, by rw [List.getElem?_drop, Array.getElem?_toList]; exact hci, ?_⟩
          simp only [SimV]
          congr 1
          rw [List.getD_eq_getElem?_getD, hn]
          rfl
        · cases hn
    · have := hwz x (List.mem_of_mem_take hx)
      simp [Lit.wf, IntKind.min, IntKind.max, IntKind.signed, IntKind.bits] at this
      exact ⟨by omega, by omega⟩
/-- An integer that came in. -/
theorem arg_int {W : World} {t : TypeId} {v : Value} {d : DataW H} {ps : List MemPlace} (ht : P.underlying t = some (.int .i64))
    (hval : Value.okWide P W .any 0 t v) (h : DataW.Trod enc P W 0 (fun _ => true) true t v d ps) : ∃ n : Int, SimV (.i n) (Outer W) v ∧ -9223372036854775808 ≤ n ∧ n ≤ 9223372036854775807 := by
  obtain ⟨n, rfl, _, _, hw⟩ := open_int ht hval h
  simp [Lit.wf, IntKind.min, IntKind.max, IntKind.signed, IntKind.bits] at hw
  exact ⟨n, by simp [SimV], by omega, by omega⟩
/-- A law says true. -/
theorem law_calls {f : FuncId} {asx : List AV} {W : World} {args : Array Value} (hs : Sp P f asx (.b true)) (he : SimL asx (Outer W) args.toList) (hlen : args.size = asx.length) (hg : GoodW W := by exact goodW_none rfl) :
    Calls P f args W fun e W' => e = .returned (.bool true) ∧ More W W' := by
  refine (hs W args hg ⟨he, by simpa using hlen⟩).mono fun e W' ⟨v, h1, h2, h3⟩ => ?_
  simp only [SimV] at h3
  subst h3
  exact ⟨h1, h2⟩
end Go.Am
namespace Go.Am
open Go.ChangeShapes Go.WideShapes Go.ChangeAt Go.RowKit Go.ChangeMaps
variable {P : Program} {H : Type} {enc : TypeId × Value → H}
/-- A cell of a list of rows of one length. -/
theorem flat_get {α : Type} (z : Nat) (hz : 0 < z) : ∀ (rs : List (List α)) (_ : ∀ r ∈ rs, r.length = z) (p : Nat), rs.flatten[p]? = (rs[p / z]?).bind (·[p % z]?)
  | [], _, p => by simp
  | r :: rs, h, p => by
    have hr := h r (List.mem_cons_self ..)
    rw [List.flatten_cons]
    by_cases hp : p < z
    · rw [List.getElem?_append_left (by omega), Nat.div_eq_of_lt hp, Nat.mod_eq_of_lt hp]; rfl
    · have h1 : p / z = (p - z) / z + 1 := by rw [Nat.div_eq_sub_div hz (by omega)]
      have h2 : p % z = (p - z) % z := Nat.mod_eq_sub_mod (by omega)
      rw [List.getElem?_append_right (by omega), hr, flat_get z hz rs (fun x hx => h x (List.mem_cons_of_mem _ hx)), h1, h2]; rfl
/-- A slice whose elements are read asx Q says. -/
theorem read_slice {W : World} {t e : TypeId} {z : Nat} (ht : P.underlying t = some (.slice e)) (hc : P.cellsOf e = z) (hz : 0 < z) (Q : List AV → Prop)
    (hQ : ∀ fuel cs (x : DataW H × List MemPlace), DataW.trod enc P W 0 (fun _ => true) true fuel e cs = some x → ∃ l, Q l ∧ l.length = z ∧ SimL l (Outer W) cs)
    {fuel : Nat} {cs : List Value} {x : DataW H × List MemPlace} (h : DataW.trod enc P W 0 (fun _ => true) true fuel t cs = some x) :
    ∃ ls : List (List AV), (∀ l ∈ ls, Q l ∧ l.length = z) ∧ ls.length ≤ maxLen ∧ SimL [.ro false z ls.flatten ls.length] (Outer W) cs := by
  rcases Go.Deep.open_slice ht h with ⟨rfl, _⟩ | ⟨a, len, cap, m, n, D, Pl, rfl, hb, hl, hm, hmm, rfl, hx⟩
  · refine ⟨[], by simp, by simp, ?_⟩
    simp only [SimL, SimV, and_true]
    exact .inl ⟨rfl, rfl, none, 0, rfl, by simp⟩
  · rw [hc] at hx
    simp only [if_true] at hmm
    have each : ∀ i, i < len → ∃ l : List AV, Q l ∧ l.length = z ∧ ∃ cs', W.cells? 0 (a.add (i * z)) z = some cs' ∧ SimL l (Outer W) cs' := fun i hi => by
      obtain ⟨cs', h1, h2⟩ := hx i (by omega)
      obtain ⟨l, h3, h4, h5⟩ := hQ n cs' _ h2
      exact ⟨l, h3, h4, cs', h1, h5⟩
    obtain ⟨f, hf⟩ := Go.Deep.choose_lt each
    have hll : ((List.range len).map f).length = len := by simp
    have hrow : ∀ l ∈ (List.range len).map f, Q l ∧ l.length = z := fun l hl' => by
      simp only [List.mem_map, List.mem_range] at hl'
      obtain ⟨i, hi, rfl⟩ := hl'
      exact ⟨(hf i hi).1, (hf i hi).2.1⟩
    refine ⟨(List.range len).map f, hrow, by rw [hll]; omega, ?_⟩
    simp only [SimL, SimV, and_true]
    rw [hll]
    by_cases h0 : len = 0
    · subst h0
      exact .inl ⟨rfl, rfl, _, cap, rfl, by simp⟩
    · obtain ⟨cs0, hcs0, _⟩ := (hf 0 (by omega)).2.2
      rw [Nat.zero_mul] at hcs0
      obtain ⟨_, hlen0, hcell0⟩ := World.cells?_some hcs0
      have hc0 := hcell0 0 hz
      rw [show (a.add 0).add 0 = a from rfl, List.getElem?_eq_getElem (by omega)] at hc0
      have hspot : a.spot = none ∧ ∃ cur e f, W.heap[a.block]? = some (.cells cur e f) := by
        unfold World.cell? at hc0
        split at hc0
        · rename_i c e' f hb
          split at hc0
          · cases hc0
          · rename_i hs
            exact ⟨by simpa using hs, c, e', f, hb⟩
        · cases hc0
      obtain ⟨hs, cur, e', fz, hbk⟩ := hspot
      obtain ⟨b, o, sp⟩ := a
      simp only at hs hbk
      subst hs
      have hflen : ((List.range len).map f).flatten.length = len * z := by
        rw [List.length_flatten]
        have : ((List.range len).map f).map List.length = List.replicate len z := by
          apply List.ext_getElem?
          intro i
          by_cases hi : i < len
          · simp [hi, (hf i hi).2.1]
          · simp [hi]
        rw [this, List.sum_replicate_nat]
      refine .inr ⟨b, o, cap, cur, e', fz, rfl, hbk, lt_of_get hbk, by rw [hflen], hl, by simp, ?_⟩
      refine SimL.of_get fun p x hp => ?_
      have hp1 := (List.getElem?_eq_some_iff.1 hp).1
      rw [hflen] at hp1
      rw [flat_get z hz _ fun l hl' => (hrow l hl').2] at hp
      have hi : p / z < len := Nat.div_lt_of_lt_mul (by rw [Nat.mul_comm]; exact hp1)
      have hj : p % z < z := Nat.mod_lt _ hz
      rw [List.getElem?_map, List.getElem?_range hi] at hp
      obtain ⟨_, _, cs', h1, h2⟩ := hf (p / z) hi
      obtain ⟨y, h3, h4⟩ := SimL.get h2 hp
      obtain ⟨_, hlen', hcell'⟩ := World.cells?_some h1
      have h5 := hcell' (p % z) hj
      rw [h3, Go.Deep.add_add, show p / z * z + p % z = p by rw [Nat.mul_comm]; exact Nat.div_add_mod p z] at h5
      refine ⟨y, ?_, h4⟩
      rw [addr_add, cell_of_row W b (o + p) cur e' fz hbk] at h5
      rw [List.getElem?_drop, Array.getElem?_toList]
      exact h5
/-- An integer's cell. -/
theorem read_int {W : World} {t : TypeId} (ht : P.underlying t = some (.int .i64)) {fuel : Nat} {cs : List Value} {x : DataW H × List MemPlace} (h : DataW.trod enc P W 0 (fun _ => true) true fuel t cs = some x) :
    ∃ n : Int, (-9223372036854775808 ≤ n ∧ n ≤ 9223372036854775807) ∧ SimL [AV.i n] (Outer W) cs := by
  obtain ⟨n, rfl, _, hw⟩ := DataW.trod_int ht h
  simp [Lit.wf, IntKind.min, IntKind.max, IntKind.signed, IntKind.bits] at hw
  exact ⟨n, by omega, by simp [SimL, SimV]⟩
end Go.Am
namespace Go.Am
open Go.ChangeShapes Go.WideShapes Go.ChangeAt Go.RowKit Go.ChangeMaps
variable {P : Program} {H : Type} {enc : TypeId × Value → H}
/-- What a struct of three integers is to the program. -/
structure IsC3 (P : Program) (t : TypeId) (f0 f1 f2 : Field) : Prop where
  ht : P.underlying t = some (.struct #[f0, f1, f2])
  h0 : P.underlying f0.type = some (.int .i64)
  h1 : P.underlying f1.type = some (.int .i64)
  h2 : P.underlying f2.type = some (.int .i64)
  o0 : f0.offset = 0
  o1 : f1.offset = 1
  o2 : f2.offset = 2
  c0 : P.cellsOf f0.type = 1
  c1 : P.cellsOf f1.type = 1
  c2 : P.cellsOf f2.type = 1
  hsz : P.cellsOf t = 3
theorem read_clu {W : World} {t : TypeId} {f0 f1 f2 : Field} (hc : IsC3 P t f0 f1 f2) {fuel : Nat} {cs : List Value} {x : DataW H × List MemPlace} (h : DataW.trod enc P W 0 (fun _ => true) true fuel t cs = some x) :
    ∃ c : Clu, SimL (cC c) (Outer W) cs ∧ cs.length = 3 := by
  obtain ⟨xs, n, _, rfl, hl, hlen, hf⟩ := DataW.trod_struct hc.ht h
  rw [hc.hsz] at hl
  have g0 := hf 0 f0 rfl
  have g1 := hf 1 f1 rfl
  have g2 := hf 2 f2 rfl
  have hlen' : xs.length = 3 := by simpa using hlen
  match xs, hlen' with
  | [y0, y1, y2], _ =>
    simp only [hc.o0, hc.o1, hc.o2, hc.c0, hc.c1, hc.c2] at g0 g1 g2
    match cs, hl with
    | [p, q, r], _ =>
      obtain ⟨a, _, s0⟩ := read_int hc.h0 (by simpa using g0)
      obtain ⟨b, _, s1⟩ := read_int hc.h1 (by simpa using g1)
      obtain ⟨c, _, s2⟩ := read_int hc.h2 (by simpa using g2)
      simp only [SimL, and_true] at s0 s1 s2
      exact ⟨(a, b, c), by simp only [cC, SimL, and_true]; exact ⟨s0, s1, s2⟩, rfl⟩
theorem rows_clu : ∀ {ls : List (List AV)}, (∀ l ∈ ls, ∃ c : Clu, l = cC c) → ∃ C : List Clu, ls.flatten = cls C ∧ ls.length = C.length
  | [], _ => ⟨[], rfl, rfl⟩
  | l :: ls, h => by
    obtain ⟨a, rfl⟩ := h l (List.mem_cons_self ..)
    obtain ⟨L, h1, h2⟩ := rows_clu (ls := ls) fun x hx => h x (List.mem_cons_of_mem _ hx)
    exact ⟨a :: L, by rw [List.flatten_cons, h1]; rfl, by simp [h2]⟩
theorem read_clus {W : World} {t e : TypeId} {f0 f1 f2 : Field} (ht : P.underlying t = some (.slice e)) (hc : IsC3 P e f0 f1 f2) {fuel : Nat} {cs : List Value} {x : DataW H × List MemPlace}
    (h : DataW.trod enc P W 0 (fun _ => true) true fuel t cs = some x) : ∃ C : List Clu, C.length ≤ maxLen ∧ SimL [.ro false 3 (cls C) C.length] (Outer W) cs := by
  obtain ⟨ls, h1, h2, h3⟩ := read_slice ht hc.hsz (by decide) (fun l => ∃ c : Clu, l = cC c) (fun fuel cs x hx => by
    obtain ⟨c, h4, h5⟩ := read_clu hc hx
    exact ⟨_, ⟨c, rfl⟩, rfl, h4⟩) h
  obtain ⟨C, h4, h5⟩ := rows_clu fun l hl => (h1 l hl).1
  rw [h4, h5] at h3
  exact ⟨C, by omega, h3⟩
theorem arg_clu {W : World} {t : TypeId} {f0 f1 f2 : Field} {v : Value} {d : DataW H} {ps : List MemPlace} (hc : IsC3 P t f0 f1 f2) (hval : Value.okWide P W .any 0 t v) (h : DataW.Trod enc P W 0 (fun _ => true) true t v d ps) :
    ∃ c : Clu, SimV (.agg [.i c.1, .i c.2.1, .i c.2.2]) (Outer W) v ∧ True ∧ True := by
  obtain ⟨cs, rfl, hcs⟩ := okWide_struct hc.ht hval
  obtain ⟨fuel, hf⟩ := h
  obtain ⟨c, h1, h2⟩ := read_clu hc hf
  refine ⟨c, ?_, trivial, trivial⟩
  simp only [SimV]
  rw [hc.hsz] at hcs
  exact ⟨cs, rfl, hcs, by simpa [Value.cells, cC] using h1⟩
theorem arg_pzl {W : World} {t e : TypeId} {f0 f1 g0 g1 g2 : Field} {v : Value} {d : DataW H} {ps : List MemPlace} (ht : P.underlying t = some (.struct #[f0, f1])) (h0 : P.underlying f0.type = some (.int .i64)) (h1 : P.underlying f1.type = some (.slice e)) (he : IsC3 P e g0 g1 g2)
    (hsz : P.cellsOf t = 2) (ho : f0.offset = 0 ∧ P.cellsOf f0.type = 1 ∧ f1.offset = 1 ∧ P.cellsOf f1.type = 1) (hval : Value.okWide P W .any 0 t v) (h : DataW.Trod enc P W 0 (fun _ => true) true t v d ps) :
    ∃ x : Int × List Clu, SimV (pzl x.1 x.2) (Outer W) v ∧ x.2.length ≤ 9223372036854775807 ∧ (-9223372036854775808 ≤ x.1 ∧ x.1 ≤ 9223372036854775807) := by
  obtain ⟨cs, rfl, hcs⟩ := okWide_struct ht hval
  obtain ⟨fuel, hf⟩ := h
  obtain ⟨y0, y1, n, _, hl, hd0, hd1⟩ := trod_struct2 ht hf
  obtain ⟨e1, e2, e3, e4⟩ := ho
  rw [e1, e2] at hd0
  rw [e3, e4] at hd1
  obtain ⟨c, hb, s0⟩ := read_int h0 hd0
  obtain ⟨C, hM, s1⟩ := read_clus h1 he hd1
  rw [hsz] at hcs
  refine ⟨(c, C), ?_, Nat.le_trans hM (by decide), hb⟩
  simp only [SimV]
  refine ⟨cs, rfl, hcs, ?_⟩
  obtain ⟨l⟩ := cs
  match l with
  | [] => simp at hcs
  | [_] => simp at hcs
  | _ :: _ :: _ :: _ => simp at hcs
  | [p, q] =>
    simp only [Value.cells, List.drop_zero, List.take_succ_cons, List.take_zero, List.drop_succ_cons, SimL, and_true] at s0 s1 ⊢
    exact ⟨s0, s1⟩
end Go.Am
namespace Go.Proofs.Ytpohldecllkjbaa
open Go.ChangeShapes Go.WideShapes Go.ChangeAt Go.RowKit
theorem factMayEnter : Try.checked.prog.mayEnter = true := by kernel_rfl
end Go.Proofs.Ytpohldecllkjbaa
namespace Go.Proofs.Ytpohldecllkjbaa
open Go.ChangeShapes Go.WideShapes Go.ChangeAt Go.RowKit
theorem factLifts : Try.checked.prog.liftsFinal = false := by kernel_rfl
end Go.Proofs.Ytpohldecllkjbaa
namespace Go.Proofs.Ytpohldecllkjbaa
open Go.ChangeShapes Go.WideShapes Go.ChangeAt Go.RowKit
theorem factMake : Try.checked.prog.make = some (OpenClaim.make { program := "", sum := "", func := "", spec := "" }) := by kernel_rfl
end Go.Proofs.Ytpohldecllkjbaa
namespace Go.Am
theorem m_cut4 {P : Program} {own : Bool} {s : AS} {K : AS → Prop} {d : Option Nat} {x lo hi mx : Opd} {z n c l h : Nat} {a : Option Addr} (hx : s.ev x = .v (.slice a n c)) (h1 : s.ev lo = .i (l : Nat)) (h2 : s.ev hi = .i (h : Nat)) (h3 : s.ev mx = .i (h : Nat)) (hl : l ≤ h) (hc : h ≤ c)
    (k : K (s.put d (.v (.slice (if h = l then a else a.map (·.add (l * z))) (h - l) (h - l))))) : aop1 P own ⟨d, .pu (.cut4 z) [x, lo, hi, mx], none⟩ s K := by
  refine ⟨_, ⟨a, n, c, l, h, .i64, .i64, .i64, ?_, hl, hc, rfl⟩, k⟩
  simp only [List.map_cons, List.map_nil, hx, h1, h2, h3]
theorem sim_cut {C : List Clu} {l h c n : Nat} {a : Option Addr} {Cx D : Ctx} (hD : D.ro = Cx.ro ∧ D.loc = Cx.loc) (hkeep : ∀ (b : Nat) (o : Obj), Cx.heap[b]? = some o → D.heap[b]? = some o) (hlh : l ≤ h) (hC : h ≤ C.length) (hs : SimV (.ro false 3 (cls C) C.length) Cx (.slice a n c)) :
    SimV (.ro false 3 (cls ((C.drop l).take (h - l))) ((C.drop l).take (h - l)).length) D (.slice (if h = l then a else a.map (·.add (l * 3))) (h - l) (h - l)) := by
  have hlen : ((C.drop l).take (h - l)).length = h - l := by simp; omega
  by_cases he : h = l
  · subst he
    simp only [SimV]
    refine .inl ⟨by simp, by simp [cls], a, 0, by simp, by simp⟩
  · simp only [SimV] at hs ⊢
    rw [if_neg he, hlen]
    rcases hs with ⟨h0, _⟩ | ⟨b, o, cap, cur, e, fz, hy, hcell, hro, hln, hcap, _, hcs⟩
    · omega
    · cases hy
      refine .inr ⟨b, o + l * 3, h - l, cur, e, fz, by simp [addr_add], hkeep b _ hcell, by rw [hD.1]; exact hro, by rw [cls_len, hlen], Nat.le_refl _, by simp, ?_⟩
      have h1 := (hcs.drop (l * 3)).take ((h - l) * 3)
      rw [cls_drop, cls_take, List.drop_drop] at h1
      exact simL_allv (cls_plain _) h1
end Go.Am
namespace Go.Proofs.Ytpohldecllkjbaa
open Go.Am
attribute [local irreducible] AW Outs Weak Lends Lend Sp aops atree aop1 Then Round InBlock Done
attribute [local irreducible] SpM DoneM SpH DoneH
set_option maxRecDepth 8000 in
theorem cutClues_exact (g : Int) (a : Option Addr) (n c l h : Nat) (hlh : l ≤ h) (hc : h ≤ c) : Sp Try.prog 67 [.agg [.i g, .v (.slice a n c)], .i l, .i h] (.agg [.i g, .v (.slice (if h = l then a else a.map (·.add (l * 3))) (h - l) (h - l))]) := by
  refine specC_of Try.func67 rfl cc67 (by rfl) ?_
  unfold ac67
  refine seq_ops ?_
  refine step_ops ?_
  refine m_box (l := [.i g, .v (.slice a n c)]) rfl rfl ?_
  repeat (first | ((first | refine step_ops ?_ | refine step_tree ?_); (first | (refine m_mov (by conv => lhs; whnf) ?_) | (refine m_ld_rpi rfl ?_ ?_; (· omega)) | (refine m_ld_pti rfl (by rfl) ?_ ?_; (· first | omega | (simp; omega))) | (apply m_ld_ptb; (· rfl); (· rfl); (· assumption)) | (apply m_ld_rp; (· rfl); (· rfl)) | (apply m_ld_pt; (· rfl); (· rfl); (· rfl)) | (refine m_cut_hi rfl rfl ?_ ?_ ?_; (· first | rfl | omega | simp); (· first | omega | (simp; omega))) | (refine m_cut_lo rfl rfl ?_ ?_ ?_; (· first | rfl | omega | simp); (· first | omega | (simp; omega))) | (refine m_alloc ?_) | (refine m_fa rfl ?_) | (refine m_fa_rp rfl ?_) | (refine m_bld rfl ?_) | (refine m_bld_1 (by conv => lhs; whnf) (by decide)  (by rfl) ?_) | (refine m_bld_2 (by conv => lhs; whnf) (by conv => lhs; whnf) (by decide)  (by decide) (by rfl) (by rfl) ?_) | (refine m_bld_3 (by conv => lhs; whnf) (by conv => lhs; whnf) (by conv => lhs; whnf) (by decide)  (by decide) (by decide) (by rfl) (by rfl) (by rfl) ?_) | (refine m_box rfl ?_ ?_; (· first | rfl | (simp [cellOk, Value.oneCell']; done))) | (refine m_box1 rfl rfl ?_) | (refine m_stall rfl rfl rfl ?_ ?_ ?_ ?_; (· first | rfl | (simp [*]; done)); (· first | rfl | (simp [*]; done)); (· first | rfl | (simp [cellOk, Value.oneCell']; done))))) | refine end_ops ?_ | refine seq_ops ?_ | refine AW_ops ?_ | refine end_tree ?_ | refine seq_tree ?_ | refine AW_tree ?_ | refine AW_seq ?_ | refine AW_ret ?_ | refine ret_done ?_ | refine norm_then ?_ | refine ret_then ?_ | refine exit_then ?_)
  refine step_tree ?_
  refine m_cut4 rfl rfl rfl rfl hlh hc ?_
  repeat (first | ((first | refine step_ops ?_ | refine step_tree ?_); (first | (refine m_mov (by conv => lhs; whnf) ?_) | (refine m_ld_rpi rfl ?_ ?_; (· omega)) | (refine m_ld_pti rfl (by rfl) ?_ ?_; (· first | omega | (simp; omega))) | (apply m_ld_ptb; (· rfl); (· rfl); (· assumption)) | (apply m_ld_rp; (· rfl); (· rfl)) | (apply m_ld_pt; (· rfl); (· rfl); (· rfl)) | (refine m_cut_hi rfl rfl ?_ ?_ ?_; (· first | rfl | omega | simp); (· first | omega | (simp; omega))) | (refine m_cut_lo rfl rfl ?_ ?_ ?_; (· first | rfl | omega | simp); (· first | omega | (simp; omega))) | (refine m_alloc ?_) | (refine m_fa rfl ?_) | (refine m_fa_rp rfl ?_) | (refine m_bld rfl ?_) | (refine m_bld_1 (by conv => lhs; whnf) (by decide)  (by rfl) ?_) | (refine m_bld_2 (by conv => lhs; whnf) (by conv => lhs; whnf) (by decide)  (by decide) (by rfl) (by rfl) ?_) | (refine m_bld_3 (by conv => lhs; whnf) (by conv => lhs; whnf) (by conv => lhs; whnf) (by decide)  (by decide) (by decide) (by rfl) (by rfl) (by rfl) ?_) | (refine m_box rfl ?_ ?_; (· first | rfl | (simp [cellOk, Value.oneCell']; done))) | (refine m_box1 rfl rfl ?_) | (refine m_stall rfl rfl rfl ?_ ?_ ?_ ?_; (· first | rfl | (simp [*]; done)); (· first | rfl | (simp [*]; done)); (· first | rfl | (simp [cellOk, Value.oneCell']; done))))) | refine end_ops ?_ | refine seq_ops ?_ | refine AW_ops ?_ | refine end_tree ?_ | refine seq_tree ?_ | refine AW_tree ?_ | refine AW_seq ?_ | refine AW_ret ?_ | refine ret_done ?_ | refine norm_then ?_ | refine ret_then ?_ | refine exit_then ?_)
  refine ret_donec rfl rfl rfl ?_
  exact outs_agg2 (outs_i rfl) outs_v
theorem cut_vals {xs : List AV} {C : Ctx} {vs : List Value} (h : SimL xs C vs) (hl : vs.length = xs.length) {x y z : AV} (he : xs = [x, y, z]) : ∃ p q r, vs = [p, q, r] ∧ SimV x C p ∧ SimV y C q ∧ SimV z C r := by
  subst he
  match vs, hl with
  | [p, q, r], _ =>
    simp only [SimL, and_true] at h
    exact ⟨p, q, r, rfl, h.1, h.2.1, h.2.2⟩
theorem cutClues_spec (g : Int) (C : List Clu) (l h : Nat) (hlh : l ≤ h) (hC : h ≤ C.length) : SpR Try.prog 67 [pzl g C, .i l, .i h] (pzl g ((C.drop l).take (h - l))) := by
  intro w vs Cx hg hh hs hsz
  obtain ⟨p, q, r, hvs, h0, h1, h2⟩ := cut_vals hs (by simpa using hsz) rfl
  simp only [SimV] at h0
  obtain ⟨ar, hp, har, hal⟩ := h0
  obtain ⟨al⟩ := ar
  match al, har with
  | [gv, sv], _ =>
    simp only [SimL, and_true] at hal
    obtain ⟨hgv, hsv⟩ := hal
    have hex : ∃ a c, sv = .slice a C.length c ∧ C.length ≤ c := by
      simp only [SimV] at hsv
      rcases hsv with ⟨e1, _, a, c, e2, _⟩ | ⟨b, o, cap, cur, e, fz, e2, _, _, _, e3, _⟩
      · exact ⟨a, c, by rw [e2, e1], by omega⟩
      · exact ⟨_, cap, e2, e3⟩
    obtain ⟨a, c, rfl, hc⟩ := hex
    have hent : Entry w [.agg [.i g, .v (.slice a C.length c)], .i l, .i h] vs.toList := by
      rw [hvs]
      refine ⟨?_, rfl⟩
      simp only [SimV] at hgv h1 h2
      subst hp
      simp [SimL, SimV, hgv, h1, h2]
    have hx := cutClues_exact g a C.length c l h hlh (by omega)
    unfold Sp at hx
    refine (hx w vs hg hent).mono fun e w' ⟨v, e1, hm, hv⟩ => ⟨v, e1, hm, ?_⟩
    simp only [SimV] at hv
    obtain ⟨ar2, hv2, har2, hal2⟩ := hv
    obtain ⟨al2⟩ := ar2
    match al2, har2 with
    | [gv2, sv2], _ =>
      simp only [SimL, SimV, and_true] at hal2
      obtain ⟨hg2, hs2⟩ := hal2
      subst hv2
      have hcut := sim_cut (Cx := Cx) (l := l) (h := h) (D := { Cx with heap := w'.heap }) ⟨rfl, rfl⟩ (fun b o hb => by rw [hh] at hb; exact (hm.block b (lt_of_get hb)).trans hb) hlh hC hsv
      have hgoal : SimL [.i g, .ro false 3 (cls ((C.drop l).take (h - l))) ((C.drop l).take (h - l)).length] { Cx with heap := w'.heap } [gv2, sv2] := by
        simp only [SimL, and_true]
        exact ⟨by simp only [SimV]; exact hg2, by rw [hs2]; exact hcut⟩
      simp only [SimV]
      exact ⟨_, rfl, rfl, hgoal⟩
end Go.Proofs.Ytpohldecllkjbaa
namespace Go.Am
def mnI (a b : Int) : Int := if b < a then b else a
theorem foldI_snoc (f : Int → Int → Int) (L : List Int) (a : Int) (k : Nat) (h : k < L.length) : (L.take (k + 1)).foldl f a = f ((L.take k).foldl f a) (L.getD k 0) := by
  rw [take_snoc L k 0 h, List.foldl_append]
  rfl
end Go.Am
namespace Go.Proofs.Ytpohldecllkjbaa
open Go.Am
attribute [local irreducible] AW Outs Weak Lends Lend Sp aops atree aop1 Then Round InBlock Done
theorem slMin_spec (L : List Int) (h0 : 0 < L.length) (hL : L.length ≤ 1048576) : Sp Try.prog 69 [ints L] (.i (L.foldl mnI (L.getD 0 0))) := by
  refine spec_of Try.func69 rfl cc69 rfl ?_
  unfold ac69
  have hz : L.getD 0 0 = (L.take 1).foldl mnI (L.getD 0 0) := by
    rw [foldI_snoc mnI L _ 0 h0]
    simp [mnI]
  repeat (first | (refine step_ops ?_; (first | (refine m_mov (by conv => lhs; whnf) ?_) | (refine m_lss rfl rfl ?_) | (refine m_add rfl rfl ?_ ?_ ?_; (· omega); (· omega)) | (refine m_adds rfl rfl ?_ ?_; (· first | omega | (simp; omega))) | (refine m_len_ro rfl ?_) | (refine m_len_sl rfl ?_) | (refine m_len_nil rfl ?_) | (refine m_idx1_ro rfl rfl ?_ ?_; (· omega)) | (refine m_idx1_sl rfl rfl ?_ ?_; (· omega)) | (apply m_idx1_slj; (· rfl); (· rfl); (· assumption); (· omega)) | (apply m_idx1_roj; (· rfl); (· rfl); (· assumption); (· omega)) | (refine m_idx_ro rfl rfl ?_ ?_ ?_; (· omega); (· omega)) | (refine m_idx_sl rfl rfl ?_ ?_ ?_; (· omega); (· omega)) | (refine m_ld_rpi rfl ?_ ?_; (· omega)) | (refine m_ld_pti rfl (by rfl) ?_ ?_; (· first | omega | (simp; omega))) | (apply m_ld_ptb; (· rfl); (· rfl); (· assumption)) | (apply m_ld_rp; (· rfl); (· rfl)) | (apply m_ld_pt; (· rfl); (· rfl); (· rfl)) | (refine m_min rfl rfl ?_))) | refine end_ops ?_ | refine seq_ops ?_ | refine AW_ops ?_ | (refine cond_t rfl ?_ ?_; (· first | rfl | assumption | (refine decide_eq_true ?_; first | assumption | omega) | (refine nt ?_; first | assumption | omega) | (simp [*]; done))) | (refine cond_f rfl ?_ ?_; (· first | rfl | assumption | (refine decide_eq_false ?_; first | assumption | omega) | (refine nf ?_; first | assumption | omega) | (simp [*]; done))) | refine skip_then ?_ | refine AW_seq ?_ | refine AW_ret ?_ | refine ret_done ?_ | refine norm_then ?_ | refine ret_then ?_ | refine exit_then ?_ | refine AW_block ?_ | refine norm_block ?_ | refine ret_block ?_ | refine ret_round ?_ | refine exit_round ?_ | refine AW_exit ?_ | refine exit_block ?_ | (refine exit_other ?_ ?_; (· decide)) | refine AW_skip ?_)
  refine AW_loop (α := Nat) (fun k => k + 1 ≤ L.length) (fun k => st [(0, ints L), (3, .i ((L.take (k + 1)).foldl mnI (L.getD 0 0))), (4, .i ((k + 1 : Nat) : Int))] []) (fun k => L.length - k) 0 (by omega) (weak_st ?_ ?_ rfl rfl) ?_
  · rw [← hz]
    (repeat' (first | exact trivial | refine And.intro ?_ ?_)) <;> (first | rfl | skip)
  · trivial
  intro k hk
  by_cases h : k + 1 < L.length
  · have hs := foldI_snoc mnI L (L.getD 0 0) (k + 1) h
    repeat (first | (refine step_ops ?_; (first | (refine m_mov (by conv => lhs; whnf) ?_) | (refine m_lss rfl rfl ?_) | (refine m_add rfl rfl ?_ ?_ ?_; (· omega); (· omega)) | (refine m_adds rfl rfl ?_ ?_; (· first | omega | (simp; omega))) | (refine m_len_ro rfl ?_) | (refine m_len_sl rfl ?_) | (refine m_len_nil rfl ?_) | (refine m_idx1_ro rfl rfl ?_ ?_; (· omega)) | (refine m_idx1_sl rfl rfl ?_ ?_; (· omega)) | (apply m_idx1_slj; (· rfl); (· rfl); (· assumption); (· omega)) | (apply m_idx1_roj; (· rfl); (· rfl); (· assumption); (· omega)) | (refine m_idx_ro rfl rfl ?_ ?_ ?_; (· omega); (· omega)) | (refine m_idx_sl rfl rfl ?_ ?_ ?_; (· omega); (· omega)) | (refine m_ld_rpi rfl ?_ ?_; (· omega)) | (refine m_ld_pti rfl (by rfl) ?_ ?_; (· first | omega | (simp; omega))) | (apply m_ld_ptb; (· rfl); (· rfl); (· assumption)) | (apply m_ld_rp; (· rfl); (· rfl)) | (apply m_ld_pt; (· rfl); (· rfl); (· rfl)) | (refine m_min rfl rfl ?_))) | refine end_ops ?_ | refine seq_ops ?_ | refine AW_ops ?_ | (refine cond_t rfl ?_ ?_; (· first | rfl | assumption | (refine decide_eq_true ?_; first | assumption | omega) | (refine nt ?_; first | assumption | omega) | (simp [*]; done))) | (refine cond_f rfl ?_ ?_; (· first | rfl | assumption | (refine decide_eq_false ?_; first | assumption | omega) | (refine nf ?_; first | assumption | omega) | (simp [*]; done))) | refine skip_then ?_ | refine AW_seq ?_ | refine AW_ret ?_ | refine ret_done ?_ | refine norm_then ?_ | refine ret_then ?_ | refine exit_then ?_ | refine AW_block ?_ | refine norm_block ?_ | refine ret_block ?_ | refine ret_round ?_ | refine exit_round ?_ | refine AW_exit ?_ | refine exit_block ?_ | (refine exit_other ?_ ?_; (· decide)) | refine AW_skip ?_)
    refine next_round (k + 1) (by omega) (weak_st ?_ ?_ rfl rfl) ?_
    · rw [hs]
      (repeat' (first | exact trivial | refine And.intro ?_ ?_)) <;> (first | rfl | skip)
    · trivial
    · omega
  · rw [List.take_of_length_le (by omega)]
    repeat (first | (refine step_ops ?_; (first | (refine m_mov (by conv => lhs; whnf) ?_) | (refine m_lss rfl rfl ?_) | (refine m_add rfl rfl ?_ ?_ ?_; (· omega); (· omega)) | (refine m_adds rfl rfl ?_ ?_; (· first | omega | (simp; omega))) | (refine m_len_ro rfl ?_) | (refine m_len_sl rfl ?_) | (refine m_len_nil rfl ?_) | (refine m_idx1_ro rfl rfl ?_ ?_; (· omega)) | (refine m_idx1_sl rfl rfl ?_ ?_; (· omega)) | (apply m_idx1_slj; (· rfl); (· rfl); (· assumption); (· omega)) | (apply m_idx1_roj; (· rfl); (· rfl); (· assumption); (· omega)) | (refine m_idx_ro rfl rfl ?_ ?_ ?_; (· omega); (· omega)) | (refine m_idx_sl rfl rfl ?_ ?_ ?_; (· omega); (· omega)) | (refine m_ld_rpi rfl ?_ ?_; (· omega)) | (refine m_ld_pti rfl (by rfl) ?_ ?_; (· first | omega | (simp; omega))) | (apply m_ld_ptb; (· rfl); (· rfl); (· assumption)) | (apply m_ld_rp; (· rfl); (· rfl)) | (apply m_ld_pt; (· rfl); (· rfl); (· rfl)) | (refine m_min rfl rfl ?_))) | refine end_ops ?_ | refine seq_ops ?_ | refine AW_ops ?_ | (refine cond_t rfl ?_ ?_; (· first | rfl | assumption | (refine decide_eq_true ?_; first | assumption | omega) | (refine nt ?_; first | assumption | omega) | (simp [*]; done))) | (refine cond_f rfl ?_ ?_; (· first | rfl | assumption | (refine decide_eq_false ?_; first | assumption | omega) | (refine nf ?_; first | assumption | omega) | (simp [*]; done))) | refine skip_then ?_ | refine AW_seq ?_ | refine AW_ret ?_ | refine ret_done ?_ | refine norm_then ?_ | refine ret_then ?_ | refine exit_then ?_ | refine AW_block ?_ | refine norm_block ?_ | refine ret_block ?_ | refine ret_round ?_ | refine exit_round ?_ | refine AW_exit ?_ | refine exit_block ?_ | (refine exit_other ?_ ?_; (· decide)) | refine AW_skip ?_)
    exact outs_i rfl
theorem slIdx_spec (L : List Int) (c : Int) (k : Nat) (hk : k < L.length) (hc : L.getD k 0 = c) (hno : ∀ j, j < k → L.getD j 0 ≠ c) (hL : L.length ≤ 1048576) : Sp Try.prog 68 [ints L, .i c] (.i k) := by
  refine spec_of Try.func68 rfl cc68 rfl ?_
  unfold ac68
  repeat (first | (refine step_ops ?_; (first | (refine m_mov (by conv => lhs; whnf) ?_) | (refine m_lss rfl rfl ?_) | (refine m_eql rfl rfl ?_) | (refine m_eqk rfl rfl ?_) | (refine m_eqs rfl rfl ?_) | (refine m_add rfl rfl ?_ ?_ ?_; (· omega); (· omega)) | (refine m_adds rfl rfl ?_ ?_; (· first | omega | (simp; omega))) | (refine m_len_ro rfl ?_) | (refine m_len_sl rfl ?_) | (refine m_len_nil rfl ?_) | (refine m_idx1_ro rfl rfl ?_ ?_; (· omega)) | (refine m_idx1_sl rfl rfl ?_ ?_; (· omega)) | (apply m_idx1_slj; (· rfl); (· rfl); (· assumption); (· omega)) | (apply m_idx1_roj; (· rfl); (· rfl); (· assumption); (· omega)) | (refine m_idx_ro rfl rfl ?_ ?_ ?_; (· omega); (· omega)) | (refine m_idx_sl rfl rfl ?_ ?_ ?_; (· omega); (· omega)) | (refine m_ld_rpi rfl ?_ ?_; (· omega)) | (refine m_ld_pti rfl (by rfl) ?_ ?_; (· first | omega | (simp; omega))) | (apply m_ld_ptb; (· rfl); (· rfl); (· assumption)) | (apply m_ld_rp; (· rfl); (· rfl)) | (apply m_ld_pt; (· rfl); (· rfl); (· rfl)))) | refine end_ops ?_ | refine seq_ops ?_ | refine AW_ops ?_ | (refine cond_t rfl ?_ ?_; (· first | rfl | assumption | (refine decide_eq_true ?_; first | assumption | omega) | (refine nt ?_; first | assumption | omega) | (simp [*]; done))) | (refine cond_f rfl ?_ ?_; (· first | rfl | assumption | (refine decide_eq_false ?_; first | assumption | omega) | (refine nf ?_; first | assumption | omega) | (simp [*]; done))) | refine skip_then ?_ | refine AW_seq ?_ | refine AW_ret ?_ | refine ret_done ?_ | refine norm_then ?_ | refine ret_then ?_ | refine exit_then ?_ | refine AW_block ?_ | refine norm_block ?_ | refine ret_block ?_ | refine ret_round ?_ | refine exit_round ?_ | refine AW_exit ?_ | refine exit_block ?_ | (refine exit_other ?_ ?_; (· decide)) | refine AW_skip ?_)
  refine AW_loop (α := Nat) (fun j => j ≤ k) (fun j => st [(0, ints L), (1, .i c), (7, .i L.length), (8, .i j)] []) (fun j => k - j) 0 (Nat.zero_le _) (weak_st ?_ ?_ rfl rfl) ?_
  · (repeat' (first | exact trivial | refine And.intro ?_ ?_)) <;> (first | rfl | skip)
  · trivial
  intro j hj
  by_cases h : j = k
  · subst h
    have hc' : c = L.getD j 0 := hc.symm
    repeat (first | (refine step_ops ?_; (first | (refine m_mov (by conv => lhs; whnf) ?_) | (refine m_lss rfl rfl ?_) | (refine m_eql rfl rfl ?_) | (refine m_eqk rfl rfl ?_) | (refine m_eqs rfl rfl ?_) | (refine m_add rfl rfl ?_ ?_ ?_; (· omega); (· omega)) | (refine m_adds rfl rfl ?_ ?_; (· first | omega | (simp; omega))) | (refine m_len_ro rfl ?_) | (refine m_len_sl rfl ?_) | (refine m_len_nil rfl ?_) | (refine m_idx1_ro rfl rfl ?_ ?_; (· omega)) | (refine m_idx1_sl rfl rfl ?_ ?_; (· omega)) | (apply m_idx1_slj; (· rfl); (· rfl); (· assumption); (· omega)) | (apply m_idx1_roj; (· rfl); (· rfl); (· assumption); (· omega)) | (refine m_idx_ro rfl rfl ?_ ?_ ?_; (· omega); (· omega)) | (refine m_idx_sl rfl rfl ?_ ?_ ?_; (· omega); (· omega)) | (refine m_ld_rpi rfl ?_ ?_; (· omega)) | (refine m_ld_pti rfl (by rfl) ?_ ?_; (· first | omega | (simp; omega))) | (apply m_ld_ptb; (· rfl); (· rfl); (· assumption)) | (apply m_ld_rp; (· rfl); (· rfl)) | (apply m_ld_pt; (· rfl); (· rfl); (· rfl)))) | refine end_ops ?_ | refine seq_ops ?_ | refine AW_ops ?_ | (refine cond_t rfl ?_ ?_; (· first | rfl | assumption | (refine decide_eq_true ?_; first | assumption | omega) | (refine nt ?_; first | assumption | omega) | (simp [*]; done))) | (refine cond_f rfl ?_ ?_; (· first | rfl | assumption | (refine decide_eq_false ?_; first | assumption | omega) | (refine nf ?_; first | assumption | omega) | (simp [*]; done))) | refine skip_then ?_ | refine AW_seq ?_ | refine AW_ret ?_ | refine ret_done ?_ | refine norm_then ?_ | refine ret_then ?_ | refine exit_then ?_ | refine AW_block ?_ | refine norm_block ?_ | refine ret_block ?_ | refine ret_round ?_ | refine exit_round ?_ | refine AW_exit ?_ | refine exit_block ?_ | (refine exit_other ?_ ?_; (· decide)) | refine AW_skip ?_)
    exact outs_i rfl
  · have hn := hno j (by omega)
    have hn' : ¬ c = L.getD j 0 := fun e => hn e.symm
    repeat (first | (refine step_ops ?_; (first | (refine m_mov (by conv => lhs; whnf) ?_) | (refine m_lss rfl rfl ?_) | (refine m_eql rfl rfl ?_) | (refine m_eqk rfl rfl ?_) | (refine m_eqs rfl rfl ?_) | (refine m_add rfl rfl ?_ ?_ ?_; (· omega); (· omega)) | (refine m_adds rfl rfl ?_ ?_; (· first | omega | (simp; omega))) | (refine m_len_ro rfl ?_) | (refine m_len_sl rfl ?_) | (refine m_len_nil rfl ?_) | (refine m_idx1_ro rfl rfl ?_ ?_; (· omega)) | (refine m_idx1_sl rfl rfl ?_ ?_; (· omega)) | (apply m_idx1_slj; (· rfl); (· rfl); (· assumption); (· omega)) | (apply m_idx1_roj; (· rfl); (· rfl); (· assumption); (· omega)) | (refine m_idx_ro rfl rfl ?_ ?_ ?_; (· omega); (· omega)) | (refine m_idx_sl rfl rfl ?_ ?_ ?_; (· omega); (· omega)) | (refine m_ld_rpi rfl ?_ ?_; (· omega)) | (refine m_ld_pti rfl (by rfl) ?_ ?_; (· first | omega | (simp; omega))) | (apply m_ld_ptb; (· rfl); (· rfl); (· assumption)) | (apply m_ld_rp; (· rfl); (· rfl)) | (apply m_ld_pt; (· rfl); (· rfl); (· rfl)))) | refine end_ops ?_ | refine seq_ops ?_ | refine AW_ops ?_ | (refine cond_t rfl ?_ ?_; (· first | rfl | assumption | (refine decide_eq_true ?_; first | assumption | omega) | (refine nt ?_; first | assumption | omega) | (simp [*]; done))) | (refine cond_f rfl ?_ ?_; (· first | rfl | assumption | (refine decide_eq_false ?_; first | assumption | omega) | (refine nf ?_; first | assumption | omega) | (simp [*]; done))) | refine skip_then ?_ | refine AW_seq ?_ | refine AW_ret ?_ | refine ret_done ?_ | refine norm_then ?_ | refine ret_then ?_ | refine exit_then ?_ | refine AW_block ?_ | refine norm_block ?_ | refine ret_block ?_ | refine ret_round ?_ | refine exit_round ?_ | refine AW_exit ?_ | refine exit_block ?_ | (refine exit_other ?_ ?_; (· decide)) | refine AW_skip ?_)
    refine next_round (j + 1) (by omega) (weak_st ?_ ?_ rfl rfl) ?_
    · (repeat' (first | exact trivial | refine And.intro ?_ ?_)) <;> (first | rfl | skip)
    · trivial
    · omega
end Go.Proofs.Ytpohldecllkjbaa
namespace Go.Proofs.Ytpohldecllkjbaa
open Go.Am
attribute [local irreducible] AW Outs Weak Lends Lend Sp aops atree aop1 Then Round InBlock Done
attribute [local irreducible] SpM DoneM SpH DoneH SpG DoneT
def leftN (n : Nat) (C : List Clu) (k : Nat) : Int := ((sol n (C.take k)).length : Nat)
def leftS (n : Nat) (C : List Clu) (k : Nat) : List Int := (List.range k).map (leftN n C)
theorem leftS_succ (n : Nat) (C : List Clu) (k : Nat) : leftS n C (k + 1) = leftS n C k ++ [leftN n C k] := by simp [leftS, List.range_succ]
theorem leftS_len (n : Nat) (C : List Clu) (k : Nat) : (leftS n C k).length = k := by simp [leftS]
def leftR (g : Int) (C : List Clu) : List Int := if IsPz g C then leftS g.toNat C (C.length + 1) else []
theorem specLeftByClues_spec (g : Int) (C : List Clu) : Sp Try.prog 45 [pzl g C] (.tup [newInts (leftR g C), .b (decide (IsPz g C))]) := by
  have hgo := pzGood_spec g C
  unfold leftR
  by_cases h : IsPz g C
  · obtain ⟨n, rfl, h1, h5⟩ := pz_nat h
    have hC6 := h.2.1
    rw [decide_eq_true h] at hgo
    rw [if_pos h, decide_eq_true h, Int.toNat_natCast]
    refine spec_of Try.func45 rfl cc45 rfl ?_
    unfold ac45
    repeat (first | (refine step_ops ?_; (first | (refine m_mov (by conv => lhs; whnf) ?_) | (refine m_nils ?_) | (refine m_box rfl ?_ ?_; (· first | rfl | (simp [cellOk, Value.oneCell']; done))) | (refine m_ldall rfl rfl ?_ ?_; (· first | rfl | (simp; done) | (simp [*]; done))))) | refine end_ops ?_ | refine seq_ops ?_ | refine AW_seq ?_)
    refine step_ops ?_
    refine m_call hgo (lends_cons lend_pzl lends_nil) ?_
    repeat (first | (refine step_ops ?_; (first | (refine m_mov (by conv => lhs; whnf) ?_) | (refine m_not rfl ?_) | (refine m_nils ?_))) | refine end_ops ?_ | refine seq_ops ?_ | (refine cond_f rfl ?_ ?_; (· first | rfl | assumption | (refine decide_eq_false ?_; first | assumption | omega) | (refine nf ?_; first | assumption | omega) | (simp [*]; done))) | refine skip_then ?_ | refine AW_seq ?_ | refine AW_block ?_)
    refine AW_loop (α := Nat) (fun k => k ≤ C.length + 1) (fun k => st [(1, .pt 1 0), (4, .sl 4 1 0 (leftS n C k).length), (5, .i k)] [(1, (true, [.i n, .ro false 3 (cls C) C.length])), (4, (true, (leftS n C k).map AV.i))]) (fun k => C.length + 1 - k) 0 (Nat.zero_le _) (weak_st ?_ ?_ rfl rfl) ?_
    · (repeat' (first | exact trivial | refine And.intro ?_ ?_)) <;> (first | rfl | skip)
    · exact ⟨rfl, rfl, trivial⟩
    intro k hk
    have hll := leftS_len n C k
    by_cases hc : k ≤ C.length
    · have hsub : ∀ c ∈ C.take k, IsClu n c := fun c hcm => h.2.2 c (List.mem_of_mem_take hcm)
      have hl1 : (C.take k).length ≤ 6 := by simp; omega
      have hall := sp_mat1 (pzAll_spec n h1 h5 (C.take k) hl1 hsub)
      have hsn := leftS_succ n C k
      have hln : leftN n C k = ((sol n (C.take k)).length : Nat) := rfl
      generalize hLg : leftS n C k = L at *
      have hk6 : L.length ≤ 4194304 := by omega
      repeat (first | ((first | refine step_ops ?_ | refine step_tree ?_); (first | (refine m_mov (by conv => lhs; whnf) ?_) | (refine m_leq rfl rfl ?_) | (refine m_len_ro rfl ?_) | (apply m_ld_pt; (· rfl); (· rfl); (· rfl)) | (refine m_fa rfl ?_))) | refine end_ops ?_ | refine seq_ops ?_ | refine AW_tree ?_ | (refine cond_t rfl ?_ ?_; (· first | rfl | assumption | (refine decide_eq_true ?_; first | assumption | omega) | (refine nt ?_; first | assumption | omega) | (simp [*]; done))) | refine skip_then ?_ | refine AW_seq ?_ | refine AW_block ?_)
      refine tree_weak (st [(1, .pt 1 0), (4, .sl 4 1 0 (L ++ [leftN n C k]).length), (5, .i k)] [(1, (true, [.i n, .ro false 3 (cls C) C.length])), (4, (true, (L ++ [leftN n C k]).map AV.i))]) ?_ ?_
      · repeat' (first
          | refine step_two ?_ ?_
          | (refine step_tree ?_; first
            | refine m_mov (by conv => lhs; whnf) ?_
            | refine m_cut_ro (l := 0) (h := k) rfl rfl ⟨_, rfl⟩ (Nat.zero_le _) hc ?_
            | refine m_call hall (lends_cons lend_v (lends_cons (lend_cut (l := 0) (h := k) (by simp) (Nat.zero_le _) hc rfl) lends_nil)) ?_
            | refine m_len_ro rfl ?_
            | refine m_bsl1 (v := .i (leftN n C k)) rfl rfl ?_
            | refine m_app1i (L := L) (v := leftN n C k) rfl (by decide) rfl rfl rfl rfl hk6 (by decide) ?_)
          | (refine atree_end ?_; exact Weak.trans (weak_move (r := 26) (q := 4) rfl (by decide) (by decide)) (weak_st ⟨rfl, rfl, rfl, trivial⟩ ⟨rfl, rfl, trivial⟩ rfl rfl)))
      · intro s' hs'
        refine norm_block ?_
        refine norm_then ?_
        refine AW_weak hs' ?_
        repeat (first | (refine step_ops ?_; (first | (refine m_mov (by conv => lhs; whnf) ?_) | (refine m_add rfl rfl ?_ ?_ ?_; (· omega); (· omega)))) | refine end_ops ?_ | refine AW_ops ?_)
        refine next_round (k + 1) (by omega) (weak_st ?_ ?_ rfl rfl) (by omega)
        · rw [hsn]
          (repeat' (first | exact trivial | refine And.intro ?_ ?_)) <;> (first | rfl | skip)
        · rw [hsn]
          exact ⟨rfl, rfl, trivial⟩
    · obtain rfl : k = C.length + 1 := by omega
      repeat (first | (refine step_ops ?_; (first | (refine m_mov (by conv => lhs; whnf) ?_) | (refine m_leq rfl rfl ?_) | (refine m_len_ro rfl ?_) | (apply m_ld_pt; (· rfl); (· rfl); (· rfl)) | (refine m_fa rfl ?_))) | refine end_ops ?_ | refine seq_ops ?_ | (refine cond_f rfl ?_ ?_; (· first | rfl | assumption | (refine decide_eq_false ?_; first | assumption | omega) | (refine nf ?_; first | assumption | omega) | (simp [*]; done))) | refine AW_seq ?_ | refine AW_ret ?_ | refine ret_done ?_ | refine norm_then ?_ | refine exit_then ?_ | refine exit_round ?_ | refine AW_exit ?_ | refine exit_block ?_)
      exact outs_tup2 (outs_ints rfl rfl rfl) (outs_b rfl)
  · rw [decide_eq_false h] at hgo
    rw [if_neg h, decide_eq_false h]
    refine spec_of Try.func45 rfl cc45 rfl ?_
    unfold ac45
    repeat (first | (refine step_ops ?_; (first | (refine m_mov (by conv => lhs; whnf) ?_) | (refine m_nils ?_) | (refine m_box rfl ?_ ?_; (· first | rfl | (simp [cellOk, Value.oneCell']; done))) | (refine m_ldall rfl rfl ?_ ?_; (· first | rfl | (simp; done) | (simp [*]; done))))) | refine end_ops ?_ | refine seq_ops ?_ | refine AW_seq ?_)
    refine step_ops ?_
    refine m_call hgo (lends_cons lend_pzl lends_nil) ?_
    repeat (first | (refine step_ops ?_; (first | (refine m_mov (by conv => lhs; whnf) ?_) | (refine m_not rfl ?_) | (refine m_nils ?_))) | refine end_ops ?_ | refine seq_ops ?_ | (refine cond_t rfl ?_ ?_; (· first | rfl | assumption | (refine decide_eq_true ?_; first | assumption | omega) | (refine nt ?_; first | assumption | omega) | (simp [*]; done))) | refine AW_ret ?_ | refine ret_done ?_ | refine ret_then ?_)
    exact outs_tup2 (outs_ints rfl rfl rfl) (outs_b rfl)
end Go.Proofs.Ytpohldecllkjbaa
namespace Go.Am
theorem m_callS {P : Program} {own : Bool} {s : AS} {K : AS → Prop} {d : Option Nat} {f : FuncId} {args : List Opd} {xs : List AV} {res : AV} (hs : SpR P f xs res) (ha : args.map s.ev = xs) (k : K (s.put d res)) : aop1 P own ⟨d, .call f args, none⟩ s K := by
  subst ha
  exact .inr (.inr (.inr (.inr (.inr ⟨res, hs, k⟩))))
theorem mnI_fold {m : Int} : ∀ (L : List Int) (a : Int), (∀ x ∈ L, m ≤ x) → m ≤ a → (m = a ∨ m ∈ L) → L.foldl mnI a = m
  | [], a, _, _, h => by rcases h with h | h; exact h.symm; cases h
  | b :: L, a, h1, h2, h3 => by
    have hb := h1 b (List.mem_cons_self ..)
    refine mnI_fold L (mnI a b) (fun x hx => h1 x (List.mem_cons_of_mem _ hx)) ?_ ?_
    · unfold mnI; split <;> assumption
    · rcases h3 with h3 | h3
      · left; unfold mnI; split <;> omega
      · rcases List.mem_cons.1 h3 with h3 | h3
        · left; unfold mnI; split <;> omega
        · exact .inr h3
end Go.Am
namespace Go.Proofs.Ytpohldecllkjbaa
open Go.Am
attribute [local irreducible] AW Outs Weak Lends Lend Sp aops atree aop1 Then Round InBlock Done
attribute [local irreducible] SpM DoneM SpH DoneH SpP SpR
def lfP (n : Nat) (C : List Clu) (k : Nat) : List Int := leftS n C k ++ List.replicate (C.length + 1 - k) 0
theorem lfP_len (n : Nat) (C : List Clu) (k : Nat) (h : k ≤ C.length + 1) : (lfP n C k).length = C.length + 1 := by
  unfold lfP
  rw [List.length_append, leftS_len, List.length_replicate]
  omega
theorem lfP_set (n : Nat) (C : List Clu) (k : Nat) (h : k ≤ C.length) : (lfP n C k).set k (leftN n C k) = lfP n C (k + 1) := by
  unfold lfP
  have hl := leftS_len n C k
  have e : C.length + 1 - k = (C.length + 1 - (k + 1)) + 1 := by omega
  rw [leftS_succ, e, List.replicate_succ, List.set_append_right _ _ (by omega), hl, Nat.sub_self, List.set_cons_zero]
  simp
theorem isPz_take {g : Int} {C : List Clu} (h : IsPz g C) (k : Nat) : IsPz g (C.take k) := ⟨h.1, by have := h.2.1; rw [List.length_take]; omega, fun c hc => h.2.2 c (List.mem_of_mem_take hc)⟩
theorem implLeftByClues_spec (g : Int) (C : List Clu) : Sp Try.prog 46 [pzl g C] (.tup [newInts (leftR g C), .b (decide (IsPz g C))]) := by
  have hp := implIsPuzzle_spec g C
  unfold leftR
  by_cases h : IsPz g C
  · obtain ⟨n, rfl, h1, h5⟩ := pz_nat h
    have hC6 := h.2.1
    rw [decide_eq_true h] at hp ⊢
    rw [if_pos h, Int.toNat_natCast]
    refine spec_of Try.func46 rfl cc46 rfl ?_
    unfold ac46
    repeat (first | (refine step_ops ?_; (first | (refine m_mov (by conv => lhs; whnf) ?_) | (refine m_nils ?_) | (refine m_box rfl ?_ ?_; (· first | rfl | (simp [cellOk, Value.oneCell']; done))) | (refine m_ldall rfl rfl ?_ ?_; (· first | rfl | (simp; done) | (simp [*]; done))))) | refine end_ops ?_ | refine seq_ops ?_ | refine AW_seq ?_)
    refine step_ops ?_
    refine m_call hp (lends_cons lend_pzl lends_nil) ?_
    repeat (first | (refine step_ops ?_; (first | (refine m_add rfl rfl ?_ ?_ ?_; (· omega); (· omega)) | (refine m_not rfl ?_) | (refine m_len_ro rfl ?_) | (apply m_ld_pt; (· rfl); (· rfl); (· rfl)) | (refine m_fa rfl ?_))) | refine end_ops ?_ | refine seq_ops ?_ | (refine cond_f rfl ?_ ?_; (· first | rfl | assumption | (refine decide_eq_false ?_; first | assumption | omega) | (refine nf ?_; first | assumption | omega) | (simp [*]; done))) | refine skip_then ?_)
    refine step_ops ?_
    refine m_mk (n := C.length + 1) rfl rfl ?_ ?_ ?_
    · omega
    · omega
    repeat (first | (refine step_ops ?_; (first | (refine m_mov (by conv => lhs; whnf) ?_) | (refine m_len_sl rfl ?_))) | refine end_ops ?_ | refine seq_ops ?_ | refine AW_seq ?_ | refine AW_block ?_)
    refine AW_loop (α := Nat) (fun k => k ≤ C.length + 1) (fun k => st [(1, .pt 1 0), (4, .sl 13 1 0 (C.length + 1)), (15, .i (C.length + 1 : Nat)), (16, .i k)] [(1, (true, [.i n, .ro false 3 (cls C) C.length])), (13, (true, (lfP n C k).map AV.i))]) (fun k => C.length + 1 - k) 0 (Nat.zero_le _) (weak_st ?_ ?_ rfl rfl) ?_
    · (repeat' (first | exact trivial | refine And.intro ?_ ?_)) <;> (first | rfl | skip)
    · refine ⟨rfl, ?_, trivial⟩
      show some (true, (List.replicate (C.length + 1) ([.int .i64 0].map AV.v)).flatten) = _
      simp [lfP, leftS]
    intro k hk
    have hll := lfP_len n C k hk
    by_cases hc : k ≤ C.length
    · have hcut := cutClues_spec n C 0 k (Nat.zero_le _) hc
      have hcnt := implCountSolutions_spec n (C.take k)
      have hset := lfP_set n C k hc
      have e1 : cntS n (C.take k) = leftN n C k := by
        unfold cntS leftN
        rw [if_pos (isPz_take h k), Int.toNat_natCast]
      rw [List.drop_zero, Nat.sub_zero] at hcut
      rw [e1, decide_eq_true (isPz_take h k)] at hcnt
      generalize lfP n C k = L at *
      generalize leftN n C k = v at *
      generalize C.take k = D at *
      repeat (first | (refine step_ops ?_; (first | (refine m_mov (by conv => lhs; whnf) ?_) | (refine m_lss rfl rfl ?_) | (refine m_ldall rfl rfl ?_ ?_; (· first | rfl | (simp; done) | (simp [*]; done))))) | refine end_ops ?_ | refine seq_ops ?_ | refine AW_ops ?_ | (refine cond_t rfl ?_ ?_; (· first | rfl | assumption | (refine decide_eq_true ?_; first | assumption | omega) | (refine nt ?_; first | assumption | omega) | (simp [*]; done))) | refine skip_then ?_ | refine AW_seq ?_ | refine AW_block ?_)
      refine step_ops ?_
      refine m_callS hcut rfl ?_
      refine step_ops ?_
      refine m_call hcnt (lends_cons lend_pzl lends_nil) ?_
      repeat (first | (refine step_ops ?_; (first | (refine m_mov (by conv => lhs; whnf) ?_) | (refine m_add rfl rfl ?_ ?_ ?_; (· omega); (· omega)) | (refine m_idx1_sl rfl rfl ?_ ?_; (· omega)) | (apply m_st; (· rfl); (· rfl); (· rfl); (· first | omega | (simp; done) | (simp; omega)); (· rfl)) | (refine m_ext rfl rfl ?_))) | refine end_ops ?_ | refine AW_ops ?_ | refine norm_then ?_ | refine norm_block ?_)
      refine next_round (k + 1) (by omega) (weak_st ?_ ?_ rfl rfl) (by omega)
      · (repeat' (first | exact trivial | refine And.intro ?_ ?_)) <;> (first | rfl | skip)
      · refine ⟨rfl, ?_, trivial⟩
        rw [← hset, List.map_set]
        rfl
    · obtain rfl : k = C.length + 1 := by omega
      repeat (first | (refine step_ops ?_; (first | (refine m_mov (by conv => lhs; whnf) ?_) | (refine m_lss rfl rfl ?_))) | refine end_ops ?_ | refine seq_ops ?_ | (refine cond_f rfl ?_ ?_; (· first | rfl | assumption | (refine decide_eq_false ?_; first | assumption | omega) | (refine nf ?_; first | assumption | omega) | (simp [*]; done))) | refine AW_seq ?_ | refine AW_ret ?_ | refine ret_done ?_ | refine norm_then ?_ | refine exit_then ?_ | refine exit_round ?_ | refine AW_exit ?_ | refine exit_block ?_)
      refine outs_tup2 (outs_ints rfl ?_ ?_) (outs_b rfl)
      · simp [lfP]
      · rw [leftS_len]
  · rw [decide_eq_false h] at hp ⊢
    rw [if_neg h]
    refine spec_of Try.func46 rfl cc46 rfl ?_
    unfold ac46
    repeat (first | (refine step_ops ?_; (first | (refine m_mov (by conv => lhs; whnf) ?_) | (refine m_nils ?_) | (refine m_box rfl ?_ ?_; (· first | rfl | (simp [cellOk, Value.oneCell']; done))) | (refine m_ldall rfl rfl ?_ ?_; (· first | rfl | (simp; done) | (simp [*]; done))))) | refine end_ops ?_ | refine seq_ops ?_ | refine AW_seq ?_)
    refine step_ops ?_
    refine m_call hp (lends_cons lend_pzl lends_nil) ?_
    repeat (first | (refine step_ops ?_; (first | (refine m_mov (by conv => lhs; whnf) ?_) | (refine m_not rfl ?_) | (refine m_nils ?_))) | refine end_ops ?_ | refine seq_ops ?_ | (refine cond_t rfl ?_ ?_; (· first | rfl | assumption | (refine decide_eq_true ?_; first | assumption | omega) | (refine nt ?_; first | assumption | omega) | (simp [*]; done))) | refine AW_ret ?_ | refine ret_done ?_ | refine ret_then ?_)
    exact outs_tup2 (outs_ints rfl rfl rfl) (outs_b rfl)
def loL (n : Nat) (C : List Clu) (k : Nat) : List Int := (List.range k).map (fun i => (loneS n C i : Int)) ++ List.replicate (C.length - k) 0
theorem loL_len (n : Nat) (C : List Clu) (k : Nat) (h : k ≤ C.length) : (loL n C k).length = C.length := by simp [loL]; omega
theorem loL_set (n : Nat) (C : List Clu) (k : Nat) (h : k < C.length) : (loL n C k).set k (loneS n C k : Int) = loL n C (k + 1) := by
  unfold loL
  have e : C.length - k = (C.length - (k + 1)) + 1 := by omega
  rw [e, List.replicate_succ, List.set_append_right _ _ (by simp), List.length_map, List.length_range, Nat.sub_self, List.set_cons_zero, List.range_succ, List.map_append]
  simp
theorem bestK_ok (n : Nat) (C : List Clu) : ∀ k, 1 ≤ k → bestK n C k < k ∧ (∀ j, j < k → loneS n C (bestK n C k) ≤ loneS n C j) ∧ ∀ j, j < bestK n C k → loneS n C (bestK n C k) < loneS n C j
  | 0, h => by omega
  | k + 1, _ => by
    have hb1 : bestK n C (k + 1) = if k = 0 ∨ loneS n C k < loneS n C (bestK n C k) then k else bestK n C k := rfl
    rcases Nat.eq_zero_or_pos k with h0 | h0
    · subst h0
      rw [hb1, if_pos (.inl rfl)]
      exact ⟨by omega, fun j hj => by obtain rfl : j = 0 := by omega
                                      exact Nat.le_refl _, fun j hj => by omega⟩
    · obtain ⟨i1, i2, i3⟩ := bestK_ok n C k h0
      by_cases hlt : loneS n C k < loneS n C (bestK n C k)
      · rw [hb1, if_pos (.inr hlt)]
        refine ⟨by omega, fun j hj => ?_, fun j hj => ?_⟩
        · rcases (show j < k ∨ j = k by omega) with hj | rfl
          · have := i2 j hj; omega
          · exact Nat.le_refl _
        · have := i2 j hj; omega
      · rw [hb1, if_neg (by omega)]
        refine ⟨by omega, fun j hj => ?_, i3⟩
        rcases (show j < k ∨ j = k by omega) with hj | rfl
        · exact i2 j hj
        · omega
theorem loL_best {n : Nat} {C : List Clu} (h : 0 < C.length) : (loL n C C.length).foldl mnI ((loL n C C.length).getD 0 0) = (loneS n C (bestK n C C.length) : Int) ∧ (loL n C C.length).getD (bestK n C C.length) 0 = (loneS n C (bestK n C C.length) : Int) ∧ ∀ j, j < bestK n C C.length → (loL n C C.length).getD j 0 ≠ (loneS n C (bestK n C C.length) : Int) := by
  obtain ⟨i1, i2, i3⟩ := bestK_ok n C C.length h
  have hg : ∀ j, j < C.length → (loL n C C.length).getD j 0 = (loneS n C j : Int) := fun j hj => by simp [loL, hj]
  have hl := loL_len n C C.length (Nat.le_refl _)
  refine ⟨?_, hg _ i1, fun j hj => ?_⟩
  · refine mnI_fold _ _ (fun x hx => ?_) ?_ (.inr ?_)
    · obtain ⟨j, hj, rfl⟩ := List.getElem_of_mem hx
      have e := hg j (by omega)
      rw [List.getD_eq_getElem?_getD, List.getElem?_eq_getElem hj, Option.getD_some] at e
      rw [e]
      exact Int.ofNat_le.2 (i2 j (by omega))
    · rw [hg 0 h]
      exact Int.ofNat_le.2 (i2 0 h)
    · have e := hg _ i1
      rw [← e, List.getD_eq_getElem?_getD, List.getElem?_eq_getElem (by omega), Option.getD_some]
      exact List.getElem_mem _
  · rw [hg j (by omega)]
    have := i3 j hj
    omega
theorem isPz_lone {g : Int} {C : List Clu} (h : IsPz g C) (k : Nat) : IsPz g ((C.drop k).take 1) := ⟨h.1, by rw [List.length_take]; omega, fun c hc => h.2.2 c (List.mem_of_mem_drop (List.mem_of_mem_take hc))⟩
theorem implBestClue_spec (g : Int) (C : List Clu) : Sp Try.prog 48 [pzl g C] (.tup [.i (if IsPz g C ∧ C ≠ [] then (bestK g.toNat C C.length : Nat) else 0), .b (decide (IsPz g C ∧ C ≠ []))]) := by
  have hp := implIsPuzzle_spec g C
  by_cases h : IsPz g C
  · obtain ⟨n, rfl, h1, h5⟩ := pz_nat h
    have hC6 := h.2.1
    rw [decide_eq_true h] at hp
    by_cases hne : C = []
    · subst hne
      rw [if_neg (by simp), decide_eq_false (by simp)]
      refine spec_of Try.func48 rfl cc48 rfl ?_
      unfold ac48
      repeat (first | (refine step_ops ?_; (first | (refine m_mov (by conv => lhs; whnf) ?_) | (refine m_box rfl ?_ ?_; (· first | rfl | (simp [cellOk, Value.oneCell']; done))) | (refine m_ldall rfl rfl ?_ ?_; (· first | rfl | (simp; done) | (simp [*]; done))))) | refine end_ops ?_ | refine seq_ops ?_ | refine AW_seq ?_)
      refine step_ops ?_
      refine m_call hp (lends_cons lend_pzl lends_nil) ?_
      repeat (first | (refine step_ops ?_; ((try (refine g_yes rfl ?_ ?_; (· first | rfl | assumption | (refine decide_eq_true ?_; first | assumption | omega) | (refine nt ?_; first | assumption | omega) | (simp [*]; done) | (refine decide_eq_false ?_; first | assumption | omega) | (refine nf ?_; first | assumption | omega)))); (first | (refine m_mov (by conv => lhs; whnf) ?_) | (refine m_eql rfl rfl ?_) | (refine m_not rfl ?_) | (refine m_len_ro rfl ?_) | (apply m_ld_pt; (· rfl); (· rfl); (· rfl)) | (refine m_pick_f rfl ?_ (by conv => lhs; whnf) ?_; (· first | rfl | assumption | (refine decide_eq_false ?_; first | assumption | omega) | (refine nf ?_; first | assumption | omega) | (simp [*]; done))) | (refine m_fa rfl ?_)))) | refine end_ops ?_ | refine seq_ops ?_ | (refine cond_t rfl ?_ ?_; (· first | rfl | assumption | (refine decide_eq_true ?_; first | assumption | omega) | (refine nt ?_; first | assumption | omega) | (simp [*]; done))) | refine AW_ret ?_ | refine ret_done ?_ | refine ret_then ?_)
      exact outs_tup2 (outs_i rfl) (outs_b rfl)
    · have hpos := List.length_pos_iff.2 hne
      obtain ⟨b1, b2, b3⟩ := loL_best (n := n) hpos
      obtain ⟨i1, _, _⟩ := bestK_ok n C C.length hpos
      have hlen := loL_len n C C.length (Nat.le_refl _)
      have hmin := slMin_spec (loL n C C.length) (by omega) (by omega)
      have hidx := slIdx_spec (loL n C C.length) _ (bestK n C C.length) (by omega) b2 b3 (by omega)
      rw [b1] at hmin
      rw [if_pos ⟨h, hne⟩, decide_eq_true (show IsPz (n : Int) C ∧ C ≠ [] from ⟨h, hne⟩), Int.toNat_natCast]
      refine spec_of Try.func48 rfl cc48 rfl ?_
      unfold ac48
      repeat (first | (refine step_ops ?_; (first | (refine m_mov (by conv => lhs; whnf) ?_) | (refine m_box rfl ?_ ?_; (· first | rfl | (simp [cellOk, Value.oneCell']; done))) | (refine m_ldall rfl rfl ?_ ?_; (· first | rfl | (simp; done) | (simp [*]; done))))) | refine end_ops ?_ | refine seq_ops ?_ | refine AW_seq ?_)
      refine step_ops ?_
      refine m_call hp (lends_cons lend_pzl lends_nil) ?_
      repeat (first | (refine step_ops ?_; ((try (refine g_yes rfl ?_ ?_; (· first | rfl | assumption | (refine decide_eq_true ?_; first | assumption | omega) | (refine nt ?_; first | assumption | omega) | (simp [*]; done) | (refine decide_eq_false ?_; first | assumption | omega) | (refine nf ?_; first | assumption | omega)))); (first | (refine m_mov (by conv => lhs; whnf) ?_) | (refine m_eql rfl rfl ?_) | (refine m_not rfl ?_) | (refine m_len_ro rfl ?_) | (apply m_ld_pt; (· rfl); (· rfl); (· rfl)) | (refine m_pick_f rfl ?_ (by conv => lhs; whnf) ?_; (· first | rfl | assumption | (refine decide_eq_false ?_; first | assumption | omega) | (refine nf ?_; first | assumption | omega) | (simp [*]; done))) | (refine m_fa rfl ?_)))) | refine end_ops ?_ | refine seq_ops ?_ | (refine cond_f rfl ?_ ?_; (· first | rfl | assumption | (refine decide_eq_false ?_; first | assumption | omega) | (refine nf ?_; first | assumption | omega) | (simp [*]; done))) | refine skip_then ?_)
      refine step_ops ?_
      refine m_mk (n := C.length) rfl rfl ?_ ?_ ?_
      · omega
      · omega
      repeat (first | (refine step_ops ?_; (first | (refine m_mov (by conv => lhs; whnf) ?_) | (refine m_len_sl rfl ?_))) | refine end_ops ?_ | refine seq_ops ?_ | refine AW_seq ?_ | refine AW_block ?_)
      refine AW_loop (α := Nat) (fun k => k ≤ C.length) (fun k => st [(1, .pt 1 0), (4, .sl 18 1 0 C.length), (20, .i C.length), (21, .i k)] [(1, (true, [.i n, .ro false 3 (cls C) C.length])), (18, (true, (loL n C k).map AV.i))]) (fun k => C.length - k) 0 (Nat.zero_le _) (weak_st ?_ ?_ rfl rfl) ?_
      · (repeat' (first | exact trivial | refine And.intro ?_ ?_)) <;> (first | rfl | skip)
      · refine ⟨rfl, ?_, trivial⟩
        show some (true, (List.replicate C.length ([.int .i64 0].map AV.v)).flatten) = _
        simp [loL]
      intro k hk
      have hll := loL_len n C k hk
      by_cases hc : k < C.length
      · have hcut := cutClues_spec n C k (k + 1) (Nat.le_succ _) hc
        have hcnt := implCountSolutions_spec n ((C.drop k).take 1)
        have hset := loL_set n C k hc
        have e1 : cntS n ((C.drop k).take 1) = (loneS n C k : Int) := by
          unfold cntS loneS
          rw [if_pos (isPz_lone h k), Int.toNat_natCast]
        rw [Nat.add_sub_cancel_left] at hcut
        rw [e1, decide_eq_true (isPz_lone h k)] at hcnt
        generalize loL n C k = L at *
        generalize (loneS n C k : Int) = v at *
        generalize (C.drop k).take 1 = D at *
        repeat (first | (refine step_ops ?_; (first | (refine m_mov (by conv => lhs; whnf) ?_) | (refine m_lss rfl rfl ?_) | (refine m_add rfl rfl ?_ ?_ ?_; (· omega); (· omega)) | (refine m_ldall rfl rfl ?_ ?_; (· first | rfl | (simp; done) | (simp [*]; done))))) | refine end_ops ?_ | refine seq_ops ?_ | refine AW_ops ?_ | (refine cond_t rfl ?_ ?_; (· first | rfl | assumption | (refine decide_eq_true ?_; first | assumption | omega) | (refine nt ?_; first | assumption | omega) | (simp [*]; done))) | refine skip_then ?_ | refine AW_seq ?_ | refine AW_block ?_)
        refine step_ops ?_
        refine m_callS hcut rfl ?_
        refine step_ops ?_
        refine m_call hcnt (lends_cons lend_pzl lends_nil) ?_
        repeat (first | (refine step_ops ?_; (first | (refine m_mov (by conv => lhs; whnf) ?_) | (refine m_add rfl rfl ?_ ?_ ?_; (· omega); (· omega)) | (refine m_idx1_sl rfl rfl ?_ ?_; (· omega)) | (apply m_st; (· rfl); (· rfl); (· rfl); (· first | omega | (simp; done) | (simp; omega)); (· rfl)) | (refine m_ext rfl rfl ?_))) | refine end_ops ?_ | refine AW_ops ?_ | refine norm_then ?_ | refine norm_block ?_)
        refine next_round (k + 1) (by omega) (weak_st ?_ ?_ rfl rfl) (by omega)
        · (repeat' (first | exact trivial | refine And.intro ?_ ?_)) <;> (first | rfl | skip)
        · refine ⟨rfl, ?_, trivial⟩
          rw [← hset, List.map_set]
          rfl
      · obtain rfl : k = C.length := by omega
        generalize loL n C C.length = L at *
        repeat (first | (refine step_ops ?_; (first | (refine m_mov (by conv => lhs; whnf) ?_) | (refine m_lss rfl rfl ?_))) | refine end_ops ?_ | refine seq_ops ?_ | (refine cond_f rfl ?_ ?_; (· first | rfl | assumption | (refine decide_eq_false ?_; first | assumption | omega) | (refine nf ?_; first | assumption | omega) | (simp [*]; done))) | refine AW_seq ?_ | refine norm_then ?_ | refine exit_then ?_ | refine exit_round ?_ | refine AW_exit ?_ | refine exit_block ?_)
        (refine step_ops ?_); (apply m_call (hmin)); (· repeat (first | exact lends_nil | (refine lends_cons ?_ ?_; (· (refine lend_sli (by rfl) ?_; first | rfl | omega | (simp; done))))))
        skip
        (refine step_ops ?_); (apply m_call (hidx)); (· repeat (first | exact lends_nil | (refine lends_cons ?_ ?_; (· (first | exact lend_v | (refine lend_sli (by rfl) ?_; first | rfl | omega | (simp; done)))))))
        repeat (first | (refine step_ops ?_; (refine m_mov (by conv => lhs; whnf) ?_)) | refine end_ops ?_ | refine AW_ret ?_ | refine ret_done ?_)
        exact outs_tup2 (outs_i rfl) (outs_b rfl)
  · rw [decide_eq_false h] at hp
    rw [if_neg (fun hh => h hh.1), decide_eq_false (fun hh => h hh.1)]
    refine spec_of Try.func48 rfl cc48 rfl ?_
    unfold ac48
    repeat (first | (refine step_ops ?_; (first | (refine m_mov (by conv => lhs; whnf) ?_) | (refine m_box rfl ?_ ?_; (· first | rfl | (simp [cellOk, Value.oneCell']; done))) | (refine m_ldall rfl rfl ?_ ?_; (· first | rfl | (simp; done) | (simp [*]; done))))) | refine end_ops ?_ | refine seq_ops ?_ | refine AW_seq ?_)
    refine step_ops ?_
    refine m_call hp (lends_cons lend_pzl lends_nil) ?_
    repeat (first | (refine step_ops ?_; (first | (first | (refine m_mov (by conv => lhs; whnf) ?_) | (refine m_not rfl ?_) | (refine m_pick_t rfl ?_ (by conv => lhs; whnf) ?_; (· first | rfl | assumption | (refine decide_eq_true ?_; first | assumption | omega) | (refine nt ?_; first | assumption | omega) | (simp [*]; done)))) | (refine g_noF rfl ?_ ?_; (· first | rfl | assumption | (refine decide_eq_true ?_; first | assumption | omega) | (refine nt ?_; first | assumption | omega) | (simp [*]; done))))) | refine end_ops ?_ | refine seq_ops ?_ | (refine cond_t rfl ?_ ?_; (· first | rfl | assumption | (refine decide_eq_true ?_; first | assumption | omega) | (refine nt ?_; first | assumption | omega) | (simp [*]; done))) | refine AW_ret ?_ | refine ret_done ?_ | refine ret_then ?_)
    exact outs_tup2 (outs_i rfl) (outs_b rfl)
end Go.Proofs.Ytpohldecllkjbaa
namespace Go.Am
/-- k, k + 1, .. in clues. -/
def mkC (k : Int) (n : Nat) : List Clu := (List.range n).map fun (i : Nat) => (k + 3 * i, k + 3 * i + 1, k + 3 * i + 2)
theorem mkC_len (k : Int) (n : Nat) : (mkC k n).length = n := by simp [mkC]
theorem mkC_succ (k : Int) (n : Nat) : mkC k (n + 1) = mkC k n ++ [(k + 3 * n, k + 3 * n + 1, k + 3 * n + 2)] := by simp [mkC, List.range_succ]
def mkdC (C : List Clu) (k : Int) (j : Nat) : List Clu := mkC k j ++ C.drop j
theorem mkdC_len (C : List Clu) (k : Int) (j : Nat) (h : j ≤ C.length) : (mkdC C k j).length = C.length := by simp [mkdC, mkC_len]; omega
theorem mkdC_zero (C : List Clu) (k : Int) : mkdC C k 0 = C := by simp [mkdC, mkC]
theorem mkdC_all (C : List Clu) (k : Int) : mkdC C k C.length = mkC k C.length := by simp [mkdC]
theorem mkdC_set (C : List Clu) (k : Int) (j : Nat) (h : j < C.length) : (mkdC C k j).set j (k + 3 * j, k + 3 * j + 1, k + 3 * j + 2) = mkdC C k (j + 1) := by
  unfold mkdC
  rw [mkC_succ, List.set_append_right _ _ (by rw [mkC_len]; omega), mkC_len, Nat.sub_self, List.drop_eq_getElem_cons h, List.set_cons_zero]
  simp
theorem cls_set3 {C : List Clu} {k : Nat} {a b c : Int} (h : k < C.length) : (((cls C).set (k * 3) (.i a)).set (k * 3 + 1) (.i b)).set (k * 3 + 2) (.i c) = cls (C.set k (a, b, c)) := by
  have hl := cls_len C
  rw [← cls_put (a, b, c) h]
  apply List.ext_getElem?
  intro i
  have e : ((cls C).take (k * 3)).length = k * 3 := by rw [List.length_take, hl]; omega
  by_cases h1 : i < k * 3
  · rw [List.append_assoc, List.getElem?_append_left (by omega), List.getElem?_take, if_pos h1, List.getElem?_set_ne (by omega), List.getElem?_set_ne (by omega), List.getElem?_set_ne (by omega)]
  · rw [List.append_assoc, List.getElem?_append_right (by omega), e]
    rcases (show i = k * 3 ∨ i = k * 3 + 1 ∨ i = k * 3 + 2 ∨ k * 3 + 3 ≤ i by omega) with rfl | rfl | rfl | h2
    · rw [List.getElem?_set_ne (by omega), List.getElem?_set_ne (by omega), List.getElem?_set_self (by omega), Nat.sub_self]
      rfl
    · rw [List.getElem?_set_ne (by omega), List.getElem?_set_self (by rw [List.length_set]; omega), Nat.add_sub_cancel_left]
      rfl
    · rw [List.getElem?_set_self (by rw [List.length_set, List.length_set]; omega), Nat.add_sub_cancel_left]
      rfl
    · rw [List.getElem?_set_ne (by omega), List.getElem?_set_ne (by omega), List.getElem?_set_ne (by omega), List.getElem?_append_right (by simp [cC]; omega), List.getElem?_drop]
      congr 1
      simp [cC]
      omega
end Go.Am
namespace Go.Proofs.Ytpohldecllkjbaa
open Go.Am
attribute [local irreducible] AW Outs Weak Lends Lend Sp aops atree aop1 Then Round InBlock Done
attribute [local irreducible] SpM DoneM SpH DoneH
theorem markClueS_spec (C : List Clu) (k : Int) (hC : C.length ≤ 1048576) (h0 : 0 ≤ k) (h1 : k ≤ 1099511627776) :
    SpM Try.prog 60 3 C.length (cls C) [.i k] (.i (k + 3 * C.length)) (cls (mkC k C.length)) := by
  refine specM_of Try.func60 rfl cc60 rfl (by first | exact allv_ints _ | exact txs_plain _ | exact cls_plain _) (by first | exact allv_ints _ | exact txs_plain _ | exact cls_plain _) rfl ?_
  unfold ac60
  repeat (first | (refine step_ops ?_; (refine m_mov (by conv => lhs; whnf) ?_)) | refine end_ops ?_ | refine seq_ops ?_ | refine AW_seq ?_ | refine AW_block ?_)
  refine AW_loop (α := Nat) (fun j => j ≤ C.length) (fun j => st [(0, .sl pbase 3 0 C.length), (1, .i (k + 3 * j)), (5, .i j)] [(pbase, (true, cls (mkdC C k j)))]) (fun j => C.length - j) 0 (by omega) (weak_st ?_ ?_ rfl rfl) ?_
  · refine ⟨rfl, ?_, rfl, trivial⟩
    show AV.i k = AV.i (k + 3 * (0 : Nat))
    simp
  · refine ⟨?_, trivial⟩
    rw [mkdC_zero]
    rfl
  intro j hj
  have hml := mkdC_len C k j hj
  have hcl := cls_len (mkdC C k j)
  by_cases h : j < C.length
  · have hs3 := cls_set3 (C := mkdC C k j) (k := j) (a := k + 3 * j) (b := k + 3 * j + 1) (c := k + 3 * j + 2) (by omega)
    rw [mkdC_set C k j h] at hs3
    repeat (first | (refine step_ops ?_; (first | (refine m_mov (by conv => lhs; whnf) ?_) | (refine m_lss rfl rfl ?_) | (refine m_add rfl rfl ?_ ?_ ?_; (· omega); (· omega)) | (refine m_len_sl rfl ?_) | (refine m_idx_sl rfl rfl ?_ ?_ ?_; (· omega); (· omega)) | (apply m_st; (· rfl); (· rfl); (· rfl); (· first | omega | (simp; done) | (simp; omega)); (· rfl)) | (refine m_fa rfl ?_))) | refine end_ops ?_ | refine seq_ops ?_ | refine AW_ops ?_ | (refine cond_t rfl ?_ ?_; (· first | rfl | assumption | (refine decide_eq_true ?_; first | assumption | omega) | (refine nt ?_; first | assumption | omega) | (simp [*]; done))) | refine skip_then ?_ | refine AW_seq ?_ | refine norm_then ?_ | refine AW_block ?_ | refine norm_block ?_)
    refine next_round (j + 1) h (weak_st ?_ ?_ rfl rfl) ?_
    · refine ⟨rfl, ?_, rfl, trivial⟩
      show AV.i (k + 3 * (j : Int) + 1 + 1 + 1) = AV.i (k + 3 * ((j + 1 : Nat) : Int))
      rw [show k + 3 * (j : Int) + 1 + 1 + 1 = k + 3 * ((j + 1 : Nat) : Int) by omega]
    · refine ⟨?_, trivial⟩
      show some (true, (((cls (mkdC C k j)).set (0 + ((j : Nat) : Int).toNat * 3 + 0) (AV.i (k + 3 * j))).set (0 + ((j : Nat) : Int).toNat * 3 + 1) (AV.i (k + 3 * j + 1))).set (0 + ((j : Nat) : Int).toNat * 3 + 2) (AV.i (k + 3 * j + 1 + 1))) = _
      rw [Int.toNat_natCast, Nat.zero_add, Nat.add_zero, ← hs3, show k + 3 * (j : Int) + 1 + 1 = k + 3 * j + 2 by omega]
    · omega
  · obtain rfl : j = C.length := by omega
    repeat (first | (refine step_ops ?_; (first | (refine m_mov (by conv => lhs; whnf) ?_) | (refine m_lss rfl rfl ?_) | (refine m_len_sl rfl ?_))) | refine end_ops ?_ | refine seq_ops ?_ | (refine cond_f rfl ?_ ?_; (· first | rfl | assumption | (refine decide_eq_false ?_; first | assumption | omega) | (refine nf ?_; first | assumption | omega) | (simp [*]; done))) | refine AW_seq ?_ | refine AW_ret ?_ | refine norm_then ?_ | refine exit_then ?_ | refine exit_round ?_ | refine AW_exit ?_ | refine exit_block ?_)
    refine ret_donem rfl ?_
    rw [← mkdC_all]
    rfl
theorem static_lenC (C M : List Clu) (x : Value) : Static (Am.look (lenH (cls C))) (.v x) (Am.look (lenH (cls M))) :=
  static_R (by simp) (fun p hp => by rw [List.mem_singleton] at hp; subst hp; exact ⟨pl_own _ (cls_plain M), refsL_plain (cls_plain M)⟩) ⟨rfl, rfl⟩
theorem markPuzzle_spec (g : Int) (C : List Clu) (k : Int) (hC : C.length ≤ 1048576) (h0 : 0 ≤ k) (h1 : k ≤ 1099511627776) :
    SpH Try.prog 28 [.agg [.i g, .sl pbase 3 0 C.length], .i k] (Am.look (lenH (cls C))) (.i (k + 3 * C.length)) (Am.look (lenH (cls (mkC k C.length)))) := by
  have hst := static_lenC C (mkC k C.length) (.int .i64 (k + 3 * C.length))
  refine specH_of Try.func28 rfl cc28 rfl (by first | exact static_mat1 _ | exact static_mat2 _ _ | assumption) ?_
  unfold ac28
  refine seq_ops ?_
  refine step_ops ?_
  refine m_boxd (l := [.i g, .sl pbase 3 0 C.length]) rfl rfl rfl ?_
  repeat (first | (refine step_ops ?_; (first | (refine m_mov (by conv => lhs; whnf) ?_) | (apply m_ld_pt; (· rfl); (· rfl); (· rfl)) | (refine m_fa rfl ?_))) | refine end_ops ?_ | refine seq_ops ?_)
  refine step_ops ?_
  refine m_callm (markClueS_spec C k hC h0 h1) rfl rfl rfl (cls_plain _) (cls_plain _) rfl ?_
  repeat (first | (refine step_ops ?_; (refine m_mov (by conv => lhs; whnf) ?_)) | refine end_ops ?_ | refine seq_ops ?_ | refine AW_ret ?_)
  refine ret_R id (by rfl) ?_ (by simp) (by simp) (by simp)
  refine ⟨⟨_, rfl, .inl ?_⟩, trivial⟩
  exact congrArg (Prod.mk true) (pl_ren _ (cls_plain _)).symm
end Go.Proofs.Ytpohldecllkjbaa
