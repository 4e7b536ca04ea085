/- The abstract machine, part nine: variables, literals, calls; a region's operations one after the other. -/
import Derived.Test.YtgjlaajkakecpaaAmH
namespace Go.Am
variable {P : Program} {w0 w : World} {mu : Nat → Option Nat} {N : Nat} {s : AS} {o : Oper} {a : Act} {phi : Nat → Option Nat} {ro : Nat → Prop} {K : AS → Prop} {Q : Exit → Act → World → Prop} {own : Bool}

theorem ok_newvar {v : Value} {e : TypeId} {fl : Bool} {cs : List AV} {r : Nat} (hrun : (execOp a.eval o).run P w = .ok (.value (.pointer (some ⟨w.heap.size, 0, none⟩))) (w.alloc (.cells v.cells e)))
    (hf : a.defers = []) (h : Sim w0 mu N s a.tmps w phi ro) (hd : ∀ k, o.dst = some k → k < N) (hs : SimR (fl, cs) (ctx w0 w ro phi s) v.cells.toList) (hr : o.dst = some r)
    (hK : K (((s.kill r).mem r (killR r (fl, cs))).put o.dst (.pt r 0))) : o.wp P a w (After w0 mu N K) Q := by
  obtain ⟨phi', hp, h1⟩ := h.new (More.alloc w _) r (Nat.lt_of_lt_of_le (hd r hr) h.npb) _ (Nat.le_refl _) (heap_alloc_new w (.cells _ e)) hs
  refine wp_value hrun (After.put hf h1 hd ?_ hK)
  simp only [SimV]
  exact ⟨rfl, by simp [ctx, AS.mem], _, hp, rfl, _, e, heap_alloc_new w (.cells _ e)⟩

theorem ok_alloc {t : TypeId} {i : TypeInfo} {z : Value} (ho : o.op = .alloc t) (hi : P.info? t = some i) (hz : i.zero = some z)
    (hf : a.defers = []) (h : Sim w0 mu N s a.tmps w phi ro) (hd : ∀ k, o.dst = some k → k < N)
    (hK : aexec P own (.alloc z.cells.toList) o.dst s K) : o.wp P a w (After w0 mu N K) Q := by
  obtain ⟨r, fl, hr, hK⟩ := hK
  have hkl : ∀ l : List Value, killL r (l.map AV.v) = l.map AV.v := by
    intro l
    induction l with
    | nil => rfl
    | cons a l ih => show killV r (.v a) :: killL r (l.map AV.v) = _; rw [ih]; rfl
  have hkr : killR r (fl, z.cells.toList.map AV.v) = (fl, z.cells.toList.map AV.v) := by
    cases fl with
    | true => rfl
    | false => show (false, killL r _) = _; rw [hkl]
  refine ok_newvar (v := z) (e := t) (fl := fl) (cs := z.cells.toList.map AV.v) (r := r) ?_ hf h hd (by cases fl <;> exact simL_v _) hr (by rw [hkr]; exact hK)
  simp [execOp, ho, Instr.alloc, zeroValue, typeInfo, hi, hz, newVar, newRow]

theorem ok_box {t : TypeId} {x : Operand} {k : Nat} (ho : o.op = .box t x)
    (hf : a.defers = []) (h : Sim w0 mu N s a.tmps w phi ro) (hd : ∀ k, o.dst = some k → k < N)
    (hK : aexec P own (.box k (opd x)) o.dst s K) : o.wp P a w (After w0 mu N K) Q := by
  obtain ⟨r, fl, hr, hK⟩ := hK
  have hx := h.ev x
  have hrun : (execOp a.eval o).run P w = .ok (.value (.pointer (some ⟨w.heap.size, 0, none⟩))) (w.alloc (.cells (a.eval x).cells t)) := by
    simp [execOp, ho, Instr.box, newVar, newRow]
  rcases hK with ⟨_, hok, hK⟩ | ⟨l, hl, hok, hK⟩
  · have h1 := cellOk_one hok hx
    have hcells : (a.eval x).cells = #[a.eval x] := by
      generalize a.eval x = v at h1
      cases v <;> first | rfl | (simp [Value.oneCell'] at h1)
    refine ok_newvar hrun hf h hd (fl := fl) (cs := [s.ev (opd x)]) ?_ hr hK
    rw [hcells]
    unfold SimR
    have := cellOk_sim hok hx
    cases fl <;> simpa [SimL] using this
  · rw [hl] at hx
    simp only [SimV] at hx
    obtain ⟨ar, hv, hsz, hs⟩ := hx
    refine ok_newvar hrun hf h hd (fl := fl) (cs := l) ?_ hr hK
    rw [hv]
    unfold SimR
    have := cellOk_simL hok hs
    cases fl <;> simpa [Value.cells] using this

theorem fill_foldl (off : Nat) : ∀ (l : List Value) (k : Nat) (cells : Array Value), off + k + l.length ≤ cells.size →
    ((l.zipIdx k).foldl (fun (cs : Array Value) (p : Value × Nat) => cs.setIfInBounds (off + p.2) p.1) cells).toList = cells.toList.take (off + k) ++ l ++ cells.toList.drop (off + k + l.length)
  | [], k, cells, h => by simp
  | v :: l, k, cells, h => by
    simp only [List.length_cons] at h
    rw [List.zipIdx_cons, List.foldl_cons, fill_foldl off l (k + 1) _ (by simp; omega)]
    simp only [Array.toList_setIfInBounds]
    apply List.ext_getElem?
    intro j
    simp only [List.getElem?_append, List.length_append, List.length_take, List.length_set, Array.length_toList, List.getElem?_take, List.getElem?_set, List.getElem?_drop, List.length_cons, List.getElem?_cons]
    by_cases h1 : j < off + k
    · have e1 : j < min (off + (k + 1)) cells.size := by omega
      have e2 : j < min (off + k) cells.size := by omega
      have e3 : j < off + (k + 1) := by omega
      have e4 : ¬ off + k = j := by omega
      have e5 : j < min (off + (k + 1)) cells.size + l.length := by omega
      have e6 : j < min (off + k) cells.size + (l.length + 1) := by omega
      simp [e1, e2, e3, e4, e5, e6, h1]
    · by_cases h2 : j = off + k
      · subst h2
        have e1 : off + k < min (off + (k + 1)) cells.size := by omega
        have e2 : ¬ off + k < min (off + k) cells.size := by omega
        have e3 : off + k < off + (k + 1) := by omega
        have e5 : off + k < min (off + (k + 1)) cells.size + l.length := by omega
        have e6 : off + k < min (off + k) cells.size + (l.length + 1) := by omega
        have e7 : off + k - min (off + k) cells.size = 0 := by omega
        have e8 : off + k < cells.size := by omega
        simp [e1, e2, e3, e5, e6, e7, e8]
      · have e1 : ¬ j < min (off + (k + 1)) cells.size := by omega
        have e2 : ¬ j < min (off + k) cells.size := by omega
        have e7 : ¬ j - min (off + k) cells.size = 0 := by omega
        have e9 : j - min (off + k) cells.size - 1 = j - min (off + (k + 1)) cells.size := by omega
        by_cases h3 : j < off + (k + 1) + l.length
        · have e5 : j < min (off + (k + 1)) cells.size + l.length := by omega
          have e6 : j < min (off + k) cells.size + (l.length + 1) := by omega
          simp [e1, e2, e5, e6, e7, e9]
        · have e5 : ¬ j < min (off + (k + 1)) cells.size + l.length := by omega
          have e6 : ¬ j < min (off + k) cells.size + (l.length + 1) := by omega
          have e10 : ¬ off + k = off + (k + 1) + l.length + (j - (min (off + (k + 1)) cells.size + l.length)) := by omega
          have e11 : off + (k + 1) + l.length + (j - (min (off + (k + 1)) cells.size + l.length)) = off + k + (l.length + 1) + (j - (min (off + k) cells.size + (l.length + 1))) := by omega
          simp [e5, e6, e10]
          rw [e11]

theorem fill_one (off : Nat) (v : Value) (cells : Array Value) (h : off + v.cells.size ≤ cells.size) :
    (v.cells.zipIdx.foldl (fun (cs : Array Value) (p : Value × Nat) => cs.setIfInBounds (off + p.2) p.1) cells).toList = cells.toList.take off ++ v.cells.toList ++ cells.toList.drop (off + v.cells.size) := by
  have := fill_foldl off v.cells.toList 0 cells (by simpa using h)
  rw [← Array.foldl_toList, Array.toList_zipIdx]
  simpa using this

theorem fill_sim {z : Nat} {fl : Bool} {D : Ctx} (hD : D = if fl then (ctx w0 w ro phi s).out else ctx w0 w ro phi s) (h : Sim w0 mu N s a.tmps w phi ro) :
    ∀ (parts : List (Nat × Operand)) (cs out : List AV) (cells : Array Value), afill s z fl cs (parts.map fun p => (p.1, opd p.2)) out → SimL cs D cells.toList → cells.size = cs.length →
      ∃ cells', Instr.fill (fun i => some (i * z, z)) cells (parts.map fun p => (p.1, a.eval p.2)) = some cells' ∧ SimL out D cells'.toList ∧ cells'.size = out.length
  | [], cs, out, cells, hfill, hs, hsz => by
    simp only [List.map_nil, afill] at hfill
    subst hfill
    exact ⟨cells, by simp [Instr.fill], hs, hsz⟩
  | (i, x) :: parts, cs, out, cells, hfill, hs, hsz => by
    simp only [List.map_cons, afill] at hfill
    have hx := h.ev x
    have step : ∀ (cs' : List AV), afill s z fl cs' (parts.map fun p => (p.1, opd p.2)) out → (a.eval x).cells.size = z → i * z + z ≤ cells.size →
        SimL cs' D (cells.toList.take (i * z) ++ (a.eval x).cells.toList ++ cells.toList.drop (i * z + z)) → cs'.length = cells.size →
        ∃ cells', Instr.fill (fun i => some (i * z, z)) cells (((i, x) :: parts).map fun p => (p.1, a.eval p.2)) = some cells' ∧ SimL out D cells'.toList ∧ cells'.size = out.length := by
      intro cs' hf' hz hle hs' hl'
      have h1 := fill_one (i * z) (a.eval x) cells (by omega)
      rw [hz] at h1
      have hs'' : SimL cs' D ((a.eval x).cells.zipIdx.foldl (fun (cs : Array Value) (p : Value × Nat) => cs.setIfInBounds (i * z + p.2) p.1) cells).toList := by rw [h1]; exact hs'
      have hsz' : ((a.eval x).cells.zipIdx.foldl (fun (cs : Array Value) (p : Value × Nat) => cs.setIfInBounds (i * z + p.2) p.1) cells).size = cs'.length := by
        rw [← Array.length_toList, h1]; simp; omega
      obtain ⟨cells', g1, g2⟩ := fill_sim hD h parts cs' out _ hf' hs'' hsz'
      refine ⟨cells', ?_, g2⟩
      simp only [List.map_cons, Instr.fill]
      rw [if_neg (by simp [hz]; omega)]
      exact g1
    rcases hfill with ⟨hz, hi, hok, hf'⟩ | ⟨l, hl, hll, hle, hok, hf'⟩
    · have h1 := cellOk_one hok hx
      have hcells : (a.eval x).cells = #[a.eval x] := by
        generalize a.eval x = v at h1
        cases v <;> first | rfl | (simp [Value.oneCell'] at h1)
      refine step _ hf' (by rw [hcells, hz]; rfl) (by rw [hz]; omega) ?_ (by simp [hsz])
      have hset : cells.toList.take (i * z) ++ (a.eval x).cells.toList ++ cells.toList.drop (i * z + z) = cells.toList.set i (a.eval x) := by
        rw [List.set_eq_take_append_cons_drop, if_pos (by simp; omega), hcells, hz]
        simp
      rw [hset]
      exact SimL.set hs (hD ▸ cellOk_sim hok hx) hi
    · rw [hl] at hx
      simp only [SimV] at hx
      obtain ⟨ar, hv, hsz2, hs2⟩ := hx
      refine step _ hf' (by rw [hv]; simp [Value.cells, hsz2, hll]) (by omega) ?_ (by simp; omega)
      have hs2' : SimL l D ar.toList := hD ▸ cellOk_simL hok hs2
      have ht : SimL (cs.take (i * z)) D (cells.toList.take (i * z)) := (SimL.take (i * z) hs).shorter _ (by simp; omega)
      have := (ht.append (by simp; omega) hs2').append (by simp; omega) (hs.drop (i * z + z))
      rw [hv]
      exact this

theorem ok_bsl {t e : TypeId} {n : Nat} {parts : Array (Nat × Operand)} {i : TypeInfo} {z : Value} (ho : o.op = .buildSlice t n parts) (ht : P.underlying t = some (.slice e)) (hi : P.info? e = some i) (hz : i.zero = some z)
    (hzs : z.cells.size = i.size) (hn : n * i.size ≤ 16777216) (hpos : 0 < i.size)
    (hf : a.defers = []) (h : Sim w0 mu N s a.tmps w phi ro) (hd : ∀ k, o.dst = some k → k < N)
    (hK : aexec P own (.bsl i.size n z.cells.toList (parts.toList.map fun p => (p.1, opd p.2))) o.dst s K) : o.wp P a w (After w0 mu N K) Q := by
  obtain ⟨r, fl, out, hr, hfill, hK⟩ := hK
  have hflat : madeCells z.cells (n * i.size) = ((List.replicate n z.cells.toList).flatten).toArray := by
    have := made_flat z.cells.toList n
    rw [Array.length_toList, hzs] at this
    simpa using this
  obtain ⟨cells', g1, g2, g3⟩ := fill_sim (z := i.size) (fl := fl) rfl h parts.toList _ out (((List.replicate n z.cells.toList).flatten).toArray) hfill
    (by
      have := replicate_flatten_prefix (C := if fl then (ctx w0 w ro phi s).out else ctx w0 w ro phi s) z.cells.toList n n (Nat.le_refl _)
      simpa using this)
    (by simp)
  have hmade : (Array.range (n * i.size)).map (z.cells[· % z.cells.size]!) = ((List.replicate n z.cells.toList).flatten).toArray := hflat
  have hrun : (execOp a.eval o).run P w = .ok (.value (.slice (some ⟨w.heap.size, 0, none⟩) n n)) (w.alloc (.cells cells' e)) := by
    have hno : ¬ (16777216 < n * i.size) := by omega
    have hp : (parts.map fun x => (x.1, a.eval x.2)).toList = parts.toList.map fun p => (p.1, a.eval p.2) := by simp
    by_cases hz0 : n * i.size = 0
    · have he : ((List.replicate n z.cells.toList).flatten).toArray = #[] := by rw [← hflat, hz0]; simp [madeCells]
      rw [he] at g1
      simp [execOp, ho, Instr.buildSlice, run_underlying ht, sizeOf, typeInfo, hi, hz0, newRow, Array.range_zero', g1]
    · simp [execOp, ho, Instr.buildSlice, run_underlying ht, sizeOf, typeInfo, hi, hno, hz0, zeroValue, hz, newRow, hmade, g1]
  have hsim : SimR (fl, out) (ctx w0 w ro phi s) cells'.toList := by unfold SimR; cases fl <;> exact g2
  obtain ⟨phi', hp, h1⟩ := h.new (More.alloc w _) r (Nat.lt_of_lt_of_le (hd r hr) h.npb) _ (Nat.le_refl _) (heap_alloc_new w (.cells _ e)) hsim
  refine wp_value hrun (After.put hf h1 hd ?_ hK)
  simp only [SimV]
  have hlen : out.length = n * i.size := by
    have key : ∀ (parts : List (Nat × Opd)) (cs out : List AV), afill s i.size fl cs parts out → out.length = cs.length := by
      intro parts
      induction parts with
      | nil => intro cs out hh; simp only [afill] at hh; rw [hh]
      | cons p parts ih =>
        intro cs out hh
        obtain ⟨j, x⟩ := p
        simp only [afill] at hh
        rcases hh with ⟨_, _, _, hh⟩ | ⟨l, _, hll, hle, _, hh⟩
        · rw [ih _ _ hh]; simp
        · rw [ih _ _ hh]; simp; omega
    rw [key _ _ _ hfill]
    simp [hzs]
  refine ⟨rfl, by simp [ctx, AS.mem], .inr ⟨_, 0, n, _, e, hp, rfl, heap_alloc_new w (.cells _ e), .inl rfl, Nat.le_refl _, ?_, by omega⟩⟩
  have : n ≤ n * i.size := Nat.le_mul_of_pos_right n hpos
  simp only [maxLen]
  omega

theorem simL_allv {C D : Ctx} : ∀ {cs : List AV} {ys : List Value}, cs.all plainV = true → SimL cs C ys → SimL cs D ys
  | [], _, _, _ => by simp [SimL]
  | _ :: _, [], _, h => by simp [SimL] at h
  | c :: cs, y :: ys, h, hs => by
    simp only [List.all_cons, Bool.and_eq_true, SimL] at h hs ⊢
    refine ⟨?_, simL_allv h.2 hs.2⟩
    cases c <;> simp [plainV] at h
    simpa [SimV] using hs.1

section
mutual
/-- From the caller's names to the callee's. -/
theorem simV_in (q : Bool) (f : Nat → Nat) (C D : Ctx) (h1 : C.heap = D.heap) (h2 : q = true → ∀ b, D.ro b → C.ro b) (h3 : D.loc = true → C.loc = true) (h4 : D.loc = true → ∀ r, C.live r = true → C.phi r = D.phi (f r)) :
    ∀ (x : AV) (y : Value), ownV q x = true → refsV C.live x = true → SimV (renV f x) D y → SimV x C y
  | .any, _, _, _, _ => by simp [SimV]
  | .v x, _, _, _, h => by simpa [SimV, renV] using h
  | .ro fr z cs n, y, ho, _, h => by
    simp only [ownV, Bool.and_eq_true, Bool.not_eq_true'] at ho
    obtain ⟨⟨hq, rfl⟩, hall⟩ := ho
    simp only [SimV, renV] at h ⊢
    rcases h with h | ⟨b, o, cap, cur, e, fz, k1, k2, k3, k4, k5, _, k6⟩
    · exact .inl ⟨h.1, h.2.1, by obtain ⟨a, c, hc, _⟩ := h.2.2; exact ⟨a, c, hc, by simp⟩⟩
    · exact .inr ⟨b, o, cap, cur, e, fz, k1, by rw [h1]; exact k2, h2 hq b k3, k4, k5, by simp, simL_allv hall k6⟩
  | .rp cs, _, ho, _, _ => by simp [ownV] at ho
  | .ob _, _, _, _, h => by simp [SimV, renV] at h
  | .fn g l k, y, ho, hr, h => by
    simp only [SimV, renV, ownV, refsV] at h ho hr ⊢
    obtain ⟨a, b, k1, k2, k3, k4⟩ := h
    rw [renL_map, List.length_map] at k3
    exact ⟨a, b, k1, k2, k3, simL_in q f C D h1 h2 h3 h4 l _ ho hr k4⟩
  | .fu _ _ _, _, ho, _, _ => by simp [ownV] at ho
  | .mit _ _ _ _ _, _, ho, _, _ => by simp [ownV] at ho
  | .rmp fr es clock, y, ho, _, h => by
    simp only [ownV, Bool.and_eq_true, Bool.not_eq_true'] at ho
    obtain ⟨hq, rfl⟩ := ho
    simp only [SimV, renV] at h ⊢
    obtain ⟨b, k1, k2, k3, _⟩ := h
    exact ⟨b, k1, by rw [h1]; exact k2, h2 hq b k3, fun e => by cases e⟩
  | .mp r, y, _, hr, h => by
    simp only [SimV, renV, refsV] at h hr ⊢
    obtain ⟨k1, k2, b, k3, k4⟩ := h
    exact ⟨h3 k1, hr, b, by rw [h4 k1 r hr]; exact k3, k4⟩
  | .itr r, y, _, hr, h => by
    simp only [SimV, renV, refsV] at h hr ⊢
    obtain ⟨k1, k2, b, k3, k4⟩ := h
    exact ⟨h3 k1, hr, b, by rw [h4 k1 r hr]; exact k3, k4⟩
  | .sl r z off n, y, _, hr, h => by
    simp only [SimV, renV, refsV] at h hr ⊢
    obtain ⟨k1, k2, k3⟩ := h
    refine ⟨h3 k1, hr, ?_⟩
    rw [h4 k1 r hr, h1]
    exact k3
  | .pt r off, y, _, hr, h => by
    simp only [SimV, renV, refsV] at h hr ⊢
    obtain ⟨k1, k2, b, k3, k4⟩ := h
    exact ⟨h3 k1, hr, b, by rw [h4 k1 r hr]; exact k3, by rw [h1]; exact k4⟩
  | .agg l, y, ho, hr, h => by
    simp only [SimV, renV, ownV, refsV] at h ho hr ⊢
    obtain ⟨a, k1, k2, k3⟩ := h
    rw [renL_map, List.length_map] at k2
    exact ⟨a, k1, k2, simL_in q f C D h1 h2 h3 h4 l _ ho hr k3⟩
  | .tup l, y, ho, hr, h => by
    simp only [SimV, renV, ownV, refsV] at h ho hr ⊢
    obtain ⟨a, k1, k2, k3⟩ := h
    rw [renL_map, List.length_map] at k2
    exact ⟨a, k1, k2, simL_in q f C D h1 h2 h3 h4 l _ ho hr k3⟩
theorem simL_in (q : Bool) (f : Nat → Nat) (C D : Ctx) (h1 : C.heap = D.heap) (h2 : q = true → ∀ b, D.ro b → C.ro b) (h3 : D.loc = true → C.loc = true) (h4 : D.loc = true → ∀ r, C.live r = true → C.phi r = D.phi (f r)) :
    ∀ (l : List AV) (ys : List Value), ownL q l = true → refsL C.live l = true → SimL (renL f l) D ys → SimL l C ys
  | [], _, _, _, _ => by simp [SimL]
  | _ :: _, [], _, _, h => by simp [SimL, renL] at h
  | a :: l, y :: ys, ho, hr, h => by
    simp only [SimL, renL, ownL, refsL, Bool.and_eq_true] at h ho hr ⊢
    exact ⟨simV_in q f C D h1 h2 h3 h4 a y ho.1 hr.1 h.1, simL_in q f C D h1 h2 h3 h4 l ys ho.2 hr.2 h.2⟩
end

mutual
/-- From the callee's names to the caller's. -/
theorem simV_out (f : Nat → Nat) (C D : Ctx) (h1 : C.heap = D.heap) (h3 : C.loc = true → D.loc = true) (h4 : C.loc = true → ∀ r, C.live r = true → D.live (f r) = true ∧ D.phi (f r) = C.phi r) :
    ∀ (x : AV) (y : Value), ownV false x = true → SimV x C y → SimV (renV f x) D y
  | .any, _, _, _ => by simp [SimV, renV]
  | .v x, _, _, h => by simpa [SimV, renV] using h
  | .ro fr z cs n, y, ho, h => by simp [ownV] at ho
  | .rp cs, _, ho, _ => by simp [ownV] at ho
  | .ob _, _, _, h => by simp [SimV] at h
  | .fn g l k, y, ho, h => by
    simp only [SimV, renV, ownV] at h ho ⊢
    obtain ⟨a, b, k1, k2, k3, k4⟩ := h
    exact ⟨a, b, k1, k2, by rw [renL_map, List.length_map]; exact k3, simL_out f C D h1 h3 h4 l _ ho k4⟩
  | .rmp fr es clock, y, ho, _ => by simp [ownV] at ho
  | .fu _ _ _, y, ho, _ => by simp [ownV] at ho
  | .mit _ _ _ _ _, y, ho, _ => by simp [ownV] at ho
  | .mp r, y, _, h => by
    simp only [SimV, renV] at h ⊢
    obtain ⟨k1, k2, b, k3, k4⟩ := h
    obtain ⟨k5, k6⟩ := h4 k1 r k2
    exact ⟨h3 k1, k5, b, by rw [k6]; exact k3, k4⟩
  | .itr r, y, _, h => by
    simp only [SimV, renV] at h ⊢
    obtain ⟨k1, k2, b, k3, k4⟩ := h
    obtain ⟨k5, k6⟩ := h4 k1 r k2
    exact ⟨h3 k1, k5, b, by rw [k6]; exact k3, k4⟩
  | .sl r z off n, y, _, h => by
    simp only [SimV, renV] at h ⊢
    obtain ⟨k1, k2, k3⟩ := h
    obtain ⟨k4, k5⟩ := h4 k1 r k2
    refine ⟨h3 k1, k4, ?_⟩
    rw [k5, ← h1]
    exact k3
  | .pt r off, y, _, h => by
    simp only [SimV, renV] at h ⊢
    obtain ⟨k1, k2, b, k3, k4⟩ := h
    obtain ⟨k5, k6⟩ := h4 k1 r k2
    exact ⟨h3 k1, k5, b, by rw [k6]; exact k3, by rw [← h1]; exact k4⟩
  | .agg l, y, ho, h => by
    simp only [SimV, renV, ownV] at h ho ⊢
    obtain ⟨a, k1, k2, k3⟩ := h
    exact ⟨a, k1, by rw [renL_map, List.length_map]; exact k2, simL_out f C D h1 h3 h4 l _ ho k3⟩
  | .tup l, y, ho, h => by
    simp only [SimV, renV, ownV] at h ho ⊢
    obtain ⟨a, k1, k2, k3⟩ := h
    exact ⟨a, k1, by rw [renL_map, List.length_map]; exact k2, simL_out f C D h1 h3 h4 l _ ho k3⟩
theorem simL_out (f : Nat → Nat) (C D : Ctx) (h1 : C.heap = D.heap) (h3 : C.loc = true → D.loc = true) (h4 : C.loc = true → ∀ r, C.live r = true → D.live (f r) = true ∧ D.phi (f r) = C.phi r) :
    ∀ (l : List AV) (ys : List Value), ownL false l = true → SimL l C ys → SimL (renL f l) D ys
  | [], _, _, _ => by simp [SimL, renL]
  | _ :: _, [], _, h => by simp [SimL] at h
  | a :: l, y :: ys, ho, h => by
    simp only [SimL, renL, ownL, Bool.and_eq_true] at h ho ⊢
    exact ⟨simV_out f C D h1 h3 h4 a y ho.1 h.1, simL_out f C D h1 h3 h4 l ys ho.2 h.2⟩
end

theorem simR_in {q : Bool} {f : Nat → Nat} {C D : Ctx} (h1 : C.heap = D.heap) (h2 : q = true → ∀ b, D.ro b → C.ro b) (h3 : D.loc = true → C.loc = true) (h4 : D.loc = true → ∀ r, C.live r = true → C.phi r = D.phi (f r)) {c : Bool × List AV} {ys : List Value}
    (ho : ownL q c.2 = true) (hr : refsL C.live c.2 = true) (h : SimR (renR f c) D ys) : SimR c C ys := by
  obtain ⟨fl, cs⟩ := c
  cases fl
  · simp only [SimR, renR, Bool.false_eq_true, if_false] at h ⊢
    exact simL_in q f C D h1 h2 h3 h4 cs ys ho hr h
  · simp only [SimR, renR, if_true] at h ⊢
    exact simL_in q f C.out D.out h1 h2 (fun e => by simp [Ctx.out] at e) (fun e => by simp [Ctx.out] at e) cs ys ho hr h
theorem simR_out {f : Nat → Nat} {C D : Ctx} (h1 : C.heap = D.heap) (h3 : C.loc = true → D.loc = true) (h4 : C.loc = true → ∀ r, C.live r = true → D.live (f r) = true ∧ D.phi (f r) = C.phi r) {c : Bool × List AV} {ys : List Value}
    (ho : ownL false c.2 = true) (h : SimR c C ys) : SimR (renR f c) D ys := by
  obtain ⟨fl, cs⟩ := c
  cases fl
  · simp only [SimR, renR, Bool.false_eq_true, if_false] at h ⊢
    exact simL_out f C D h1 h3 h4 cs ys ho h
  · simp only [SimR, renR, if_true] at h ⊢
    exact simL_out f C.out D.out h1 (fun e => by simp [Ctx.out] at e) (fun e => by simp [Ctx.out] at e) cs ys ho h

theorem renL_one {f : Nat → Nat} : ∀ {l : List AV} {o : Obj}, renL f l = [.ob o] → l = [.ob o]
  | [], _, h => by simp [renL] at h
  | [a], o, h => by
    simp only [renL, List.cons.injEq, and_true] at h
    cases a <;> simp only [renV] at h <;> first | (cases h; done) | (injection h with h; rw [h])
  | a :: b :: l, o, h => by simp [renL] at h
theorem renR_ob {f : Nat → Nat} {c : Bool × List AV} {o : Obj} (h : renR f c = (true, [.ob o])) : c = (true, [.ob o]) := by
  obtain ⟨fl, cs⟩ := c
  simp only [renR, Prod.mk.injEq] at h
  rw [h.1, renL_one h.2]
/-- The caller's state behind such a call. -/
theorem lent_after {f : FuncId} {s : AS} {w0 w : World} {mu : Nat → Option Nat} {tm : Array Value} {phi : Nat → Option Nat} {ro : Nat → Prop} (h : Sim w0 mu N s tm w phi ro) {g : Nat → Nat} {as : List AV} {hin : Hp} {ι : Type} {ok : ι → Prop} {res : ι → AV} {hout hp' : ι → Hp}
    (hs : SpX P f as hin ok res hout) (hne : ∃ i, ok i) (LA : ∀ i, ok i → Lent s g hin (hout i) (hp' i) (res i)) {vs : Array Value} (hv : SimL as (ctxE w (fun r => phi (g r)) hin) vs.toList) (hl : vs.size = as.length) :
    Calls P f vs w fun x w' => ∃ i, ok i ∧ ∃ v phi', x = .returned v ∧ Sim w0 mu N ⟨s.tm, hp' i⟩ tm w' phi' ro ∧ SimV (renV g (res i)) (ctx w0 w' ro phi' ⟨s.tm, hp' i⟩) v := by
  obtain ⟨i0, hi0⟩ := hne
  have L := LA i0 hi0
  have hlv : ∀ r, (hin r).isSome = true → (s.hp (g r)).isSome = true := by
    intro r hr
    obtain ⟨c, hc⟩ := Option.isSome_iff_exists.1 hr
    rw [L.has r c hc]; rfl
  have hro : ∀ b, (ctx w0 w ro phi s).ro b → (ctxE w (fun r => phi (g r)) hin).ro b := by
    intro b hb
    refine ⟨h.rob b hb, fun r hr hp => ?_⟩
    obtain ⟨c, hc⟩ := Option.isSome_iff_exists.1 hr
    rcases h.liv _ _ (L.has r c hc) with ⟨h1, _⟩ | ⟨b', _, _, h1, _, h2, _⟩ | ⟨b', _, _, h1, _, _, h2, _⟩
    · have hp' : phi (g r) = some b := hp
      rw [h1] at hp'; cases hp'
    · have hp' : phi (g r) = some b := hp
      rw [h1] at hp'; cases hp'
      exact h2 hb
    · have hp' : phi (g r) = some b := hp
      rw [h1] at hp'; cases hp'
      exact h2 hb
  have hinj0 : ∀ r r', (hin r).isSome = true → (hin r').isSome = true → g r = g r' → r = r' := fun r r' h1 h2 => L.inj r r' (L.stay r h1) (L.stay r' h2)
  refine (hs w vs (fun r => phi (g r)) h.goodW (fun r b hr hp => by obtain ⟨c, hc⟩ := Option.isSome_iff_exists.1 hr; exact h.regGood (L.has r c hc) hp) ?_ ?_ ?_ hl).mono fun x w' hpost => ?_
  · intro r r' b h1 h2 h3 h4
    exact hinj0 r r' h1 h2 (h.inj _ _ b (hlv r h1) (hlv r' h2) h3 h4)
  · intro r c hc
    obtain ⟨ho, hrf⟩ := L.ownI r c hc
    rcases h.liv _ _ (L.has r c hc) with ⟨h1, h2, _⟩ | ⟨b, cur, e, h1, h2, _, _, h5⟩ | ⟨b, o, h0, h1, h2, h3, _⟩
    · refine .inl ⟨h1, ?_⟩
      obtain ⟨fl, cs⟩ := c
      simp only [renR, renL_map] at h2
      exact List.map_eq_nil_iff.1 h2
    case inr.inr => exact .inr (.inr ⟨b, o, renR_ob h0, h1, h2, h3⟩)
    · refine .inr (.inl ?_)
      exact ⟨b, cur, e, h1, h2, simR_in (q := true) (C := ctxE w (fun r => phi (g r)) hin) (D := ctx w0 w ro phi s) rfl (fun _ => hro) (fun _ => rfl) (fun _ r _ => rfl) ho hrf h5⟩
  · exact hv
  obtain ⟨i, hi, v, phi', rfl, hos, htape, hout', hsize, hsame, hkept, hshp, hinj, hnew, hregs, hres⟩ := hpost
  refine ⟨i, hi, ?_⟩
  clear L
  have L := LA i hi
  clear LA hs
  generalize hout i = hout at *
  generalize hp' i = hp' at *
  generalize res i = res at *
  have hnone : ∀ r, ¬ (hin r).isSome = true → hin r = none := fun r hr => by
    cases hh : hin r with
    | none => rfl
    | some c => rw [hh] at hr; simp at hr
  classical
  let phiD : Nat → Option Nat := fun q => if hq : ∃ r, (hout r).isSome = true ∧ g r = q then phi' hq.choose else phi q
  have hphi : ∀ r, (hout r).isSome = true → phiD (g r) = phi' r := by
    intro r hr
    have hq : ∃ r', (hout r').isSome = true ∧ g r' = g r := ⟨r, hr, rfl⟩
    show (if hq : ∃ r', (hout r').isSome = true ∧ g r' = g r then phi' hq.choose else phi (g r)) = _
    rw [dif_pos hq, L.inj _ _ hq.choose_spec.1 hr hq.choose_spec.2]
  have hphiO : ∀ q, (∀ r, (hout r).isSome = true → g r ≠ q) → phiD q = phi q := by
    intro q hq
    show (if hq : ∃ r', (hout r').isSome = true ∧ g r' = q then phi' hq.choose else phi q) = _
    rw [dif_neg]
    rintro ⟨r, h1, h2⟩
    exact hq r h1 h2
  have hphiS : ∀ q, (s.hp q).isSome = true → phiD q = phi q := by
    intro q hq
    by_cases hx : ∃ r, (hout r).isSome = true ∧ g r = q
    · obtain ⟨r, h1, rfl⟩ := hx
      rw [hphi r h1]
      by_cases hi : (hin r).isSome = true
      · exact hsame r hi
      · rw [(L.fresh r h1 (hnone r hi)).1] at hq; simp at hq
    · exact hphiO q fun r h1 h2 => hx ⟨r, h1, h2⟩
  have hlive : ∀ q, (s.hp q).isSome = true → (hp' q).isSome = true := by
    intro q hq
    by_cases hx : ∃ r, (hout r).isSome = true ∧ g r = q
    · obtain ⟨r, h1, rfl⟩ := hx
      obtain ⟨c, hc⟩ := Option.isSome_iff_exists.1 h1
      rw [L.new r c hc]; rfl
    · rw [L.old q fun r h1 h2 => hx ⟨r, h1, h2⟩]; exact hq
  -- blocks that a region of the caller's, not lent, has are as they were
  have hlentb : ∀ r b, (hin r).isSome = true → phi (g r) = some b → b < w.heap.size := by
    intro r b hr hp
    obtain ⟨c, hc⟩ := Option.isSome_iff_exists.1 hr
    rcases h.liv _ _ (L.has r c hc) with ⟨h1, _⟩ | ⟨b', _, _, h1, h2, _⟩ | ⟨b', _, _, h1, h2, _⟩
    · rw [h1] at hp; cases hp
    · rw [h1] at hp; cases hp; exact lt_of_get h2
    · rw [h1] at hp; cases hp; exact lt_of_get h2
  have hle : (ctx w0 w ro phi s).Le (ctx w0 w' ro phiD ⟨s.tm, hp'⟩) := by
    refine ⟨fun b hb => ⟨hb, hkept b (h.rob b hb) (hro b hb).2⟩, Nat.le_refl _, id, fun _ q _ hl => ⟨hlive q hl, hphiS q hl⟩, fun _ q b cur e _ _ _ hb => ?_⟩
    obtain ⟨cur', k1, k2⟩ := hshp b cur e (0, 0) hb
    exact ⟨cur', k1, by omega⟩
  have hD : ∀ r, (ctxX w w' phi' hout).live r = true → (ctx w0 w' ro phiD ⟨s.tm, hp'⟩).live (g r) = true ∧ (ctx w0 w' ro phiD ⟨s.tm, hp'⟩).phi (g r) = (ctxX w w' phi' hout).phi r := by
    intro r hr
    obtain ⟨c, hc⟩ := Option.isSome_iff_exists.1 hr
    refine ⟨?_, hphi r hr⟩
    show (hp' (g r)).isSome = true
    rw [L.new r c hc]; rfl
  have hb0 : ∀ r b, (hout r).isSome = true → phi' r = some b → (hin r).isSome = true ∧ phi (g r) = some b ∨ hin r = none ∧ w.heap.size ≤ b := by
    intro r b hr hp
    by_cases hi : (hin r).isSome = true
    · exact .inl ⟨hi, by rw [← hsame r hi]; exact hp⟩
    · exact .inr ⟨hnone r hi, hnew r b hr (hnone r hi) hp⟩
  refine ⟨v, phiD, rfl, ?_, simV_out g (ctxX w w' phi' hout) (ctx w0 w' ro phiD ⟨s.tm, hp'⟩) rfl (fun _ => rfl) (fun _ => hD) res v L.ownR hres⟩
  -- each region of the state behind: of the callee's, or an old one
  have hcase : ∀ q, (hp' q).isSome = true → (∃ r, (hout r).isSome = true ∧ g r = q) ∨ ((∀ r, (hout r).isSome = true → g r ≠ q) ∧ (s.hp q).isSome = true) := by
    intro q hq
    by_cases hx : ∃ r, (hout r).isSome = true ∧ g r = q
    · exact .inl hx
    · have hn : ∀ r, (hout r).isSome = true → g r ≠ q := fun r h1 h2 => hx ⟨r, h1, h2⟩
      exact .inr ⟨hn, by rw [← L.old q hn]; exact hq⟩
  have holdb : ∀ q b, (s.hp q).isSome = true → phi q = some b → b < w.heap.size := by
    intro q b hq hp
    obtain ⟨c, hc⟩ := Option.isSome_iff_exists.1 hq
    rcases h.liv q c hc with ⟨h1, _⟩ | ⟨b', _, _, h1, h2, _⟩ | ⟨b', _, _, h1, h2, _⟩
    · rw [h1] at hp; cases hp
    · rw [h1] at hp; cases hp; exact lt_of_get h2
    · rw [h1] at hp; cases hp; exact lt_of_get h2
  exact {
    os := hos.trans h.os, tape := htape.trans h.tape, output := hout'.trans h.output, size := Nat.le_trans h.size hsize
    kept := fun b hb hmu => by
      refine (hkept b (Nat.lt_of_lt_of_le hb h.size) fun r hr hp => ?_).trans (h.kept b hb hmu)
      obtain ⟨c, hc⟩ := Option.isSome_iff_exists.1 hr
      have hp' : phi (g r) = some b := hp
      rcases h.liv _ _ (L.has r c hc) with ⟨h1, _⟩ | ⟨b', _, _, h1, _, _, h2, _⟩ | ⟨b', _, _, h1, _, _, _, h2⟩
      · rw [h1] at hp'; cases hp'
      · rw [h1] at hp'; cases hp'
        rcases h2 with ⟨_, h2 | ⟨r', _, h2⟩⟩ | h2
        · omega
        · exact hmu _ h2
        · exact hmu _ h2.2
      · rw [h1] at hp'; cases hp'
        rcases h2 with ⟨_, h2 | ⟨r', _, h2⟩⟩ | h2
        · omega
        · exact hmu _ h2
        · exact hmu _ h2.2
    shp := fun b cur e f hb => by
      obtain ⟨c1, g1, g2⟩ := h.shp b cur e f hb
      obtain ⟨c2, g3, g4⟩ := hshp b c1 e f g1
      exact ⟨c2, g3, by omega⟩
    npb := h.npb
    gd := h.gd
    rob := fun b hb => Nat.lt_of_lt_of_le (h.rob b hb) hsize
    inj := fun q q' b hq hq' h1 h2 => by
      rcases hcase q hq with ⟨r, hr, rfl⟩ | ⟨hn, hs1⟩
      · rw [hphi r hr] at h1
        rcases hcase q' hq' with ⟨r', hr', rfl⟩ | ⟨hn', hs1'⟩
        · rw [hphi r' hr'] at h2
          rw [hinj r r' b hr hr' h1 h2]
        · have h2' : phi q' = some b := by rw [← hphiO q' hn']; exact h2
          rcases hb0 r b hr h1 with ⟨hi, hp⟩ | ⟨hi, hge⟩
          · exact absurd (h.inj _ _ b (hlv r hi) hs1' hp h2') (hn' r hr)
          · have := holdb q' b hs1' h2'; omega
      · have h1' : phi q = some b := by rw [← hphiO q hn]; exact h1
        rcases hcase q' hq' with ⟨r', hr', rfl⟩ | ⟨hn', hs1'⟩
        · rw [hphi r' hr'] at h2
          rcases hb0 r' b hr' h2 with ⟨hi, hp⟩ | ⟨hi, hge⟩
          · exact absurd (h.inj _ _ b hs1 (hlv r' hi) h1' hp).symm (hn r' hr')
          · have := holdb q b hs1 h1'; omega
        · exact h.inj q q' b hs1 hs1' h1' (by rw [← hphiO q' hn']; exact h2)
    liv := fun q c hc => by
      rcases hcase q (by have hc1 : hp' q = some c := hc
                         rw [hc1]; rfl) with ⟨r, hr, rfl⟩ | ⟨hn, hs1⟩
      · obtain ⟨c0, hc0⟩ := Option.isSome_iff_exists.1 hr
        have hcc : renR g c0 = c := by
          have h1 : hp' (g r) = some c := hc
          rw [L.new r c0 hc0] at h1
          cases h1; rfl
        subst hcc
        have hsz : ∀ cs : List AV, cs = [] → renL g cs = [] := fun cs e => by rw [e]; simp [renL]
        have hnb : ∀ b, phi' r = some b → ¬ ro b := by
          intro b h1 hb
          rcases hb0 r b hr h1 with ⟨hi, hp⟩ | ⟨hi, hge⟩
          · exact (hro b hb).2 r hi hp
          · have := h.rob b hb; omega
        have hown : ∀ b, phi' r = some b → (g r < pbase ∧ Mine w0 mu b ∨ pbase ≤ g r ∧ mu (g r) = some b) := by
          intro b h1
          rcases hb0 r b hr h1 with ⟨hi, hp⟩ | ⟨hi, hge⟩
          · obtain ⟨ci, hci⟩ := Option.isSome_iff_exists.1 hi
            rcases h.liv _ _ (L.has r ci hci) with ⟨k1, _⟩ | ⟨b', _, _, k1, _, _, k2, _⟩ | ⟨b', _, _, k1, _, _, _, k2⟩
            · rw [k1] at hp; cases hp
            · rw [k1] at hp; cases hp; exact k2
            · rw [k1] at hp; cases hp; exact k2
          · exact .inl ⟨(L.fresh r hr hi).2, .inl (Nat.le_trans h.size hge)⟩
        rcases hregs r c0 hc0 with ⟨h1, h2⟩ | ⟨b, cur, e, h1, h2, h3⟩ | ⟨b, o, rfl, h1, h2, h3⟩
        case inr.inr => exact .inr (.inr ⟨b, o, rfl, by rw [hphi r hr]; exact h1, h2, h3, hnb b h1, hown b h1⟩)
        · refine .inl ⟨by rw [hphi r hr]; exact h1, hsz _ h2, fun hge => ?_⟩
          by_cases hi : (hin r).isSome = true
          · obtain ⟨ci, hci⟩ := Option.isSome_iff_exists.1 hi
            rcases h.liv _ _ (L.has r ci hci) with ⟨k1, k2, k3⟩ | ⟨b', _, _, k1, _⟩ | ⟨b', _, _, k1, _⟩
            · exact k3 hge
            · have h1' : phi' r = none := h1
              rw [hsame r hi, k1] at h1'; cases h1'
            · have h1' : phi' r = none := h1
              rw [hsame r hi, k1] at h1'; cases h1'
          · have := (L.fresh r hr (hnone r hi)).2; omega
        · exact .inr (.inl ⟨b, cur, e, by rw [hphi r hr]; exact h1, h2, hnb b h1, hown b h1, simR_out (C := ctxX w w' phi' hout) (D := ctx w0 w' ro phiD ⟨s.tm, hp'⟩) rfl (fun _ => rfl) (fun _ => hD) (L.ownO r c0 hc0) h3⟩)
      · have hc' : s.hp q = some c := by rw [← L.old q hn]; exact hc
        rcases h.liv q c hc' with ⟨h1, h2, h3⟩ | ⟨b, cur, e, h1, h2, h3, h4, h5⟩ | ⟨b, o, h0, h1, h2, h3, h4, h5⟩
        · exact .inl ⟨by rw [hphiO q hn]; exact h1, h2, h3⟩
        · refine .inr (.inl ⟨b, cur, e, by rw [hphiO q hn]; exact h1, ?_, h3, h4, h5.mono hle⟩)
          rw [hkept b (lt_of_get h2) fun r hr hp => hn r (L.stay r hr) (h.inj _ _ b (hlv r hr) (by simp [hc']) hp h1)]
          exact h2
        · refine .inr (.inr ⟨b, o, h0, by rw [hphiO q hn]; exact h1, ?_, h3, h4, h5⟩)
          rw [hkept b (lt_of_get h2) fun r hr hp => hn r (L.stay r hr) (h.inj _ _ b (hlv r hr) (by simp [hc']) hp h1)]
          exact h2
    tms := fun t => SimV.mono _ _ _ _ hle (h.tms t)
    slots := h.slots }
/-- The caller's state behind a call that regions were given to. -/
theorem given_after {f : FuncId} {s : AS} {w0 w : World} {mu : Nat → Option Nat} {tm : Array Value} {phi : Nat → Option Nat} {ro : Nat → Prop} (h : Sim w0 mu N s tm w phi ro) {p : Nat → Bool} {g : Nat → Nat} {as : List AV} {hin hout hp' : Hp} {res : AV}
    (hs : SpG P f as hin res hout) (L : Given s p g hin hout hp' res) {vs : Array Value} (hv : SimL as (ctxE w (fun r => phi (g r)) hin) vs.toList) (hl : vs.size = as.length) :
    Calls P f vs w fun x w' => ∃ v phi', x = .returned v ∧ Sim w0 mu N ⟨(s.drop p).tm, hp'⟩ tm w' phi' ro ∧ SimV (renV g res) (ctx w0 w' ro phi' ⟨(s.drop p).tm, hp'⟩) v := by
  have h2 := h.dropP p
  have hsub : ∀ q, ((s.drop p).hp q).isSome = true → (s.hp q).isSome = true ∧ ¬ p q = true := by
    intro q hq
    by_cases hqp : p q = true
    · simp [AS.drop, hqp] at hq
    · exact ⟨by simpa [AS.drop, hqp] using hq, hqp⟩
  have hlv : ∀ r, (hin r).isSome = true → (s.hp (g r)).isSome = true := by
    intro r hr
    obtain ⟨c, hc⟩ := Option.isSome_iff_exists.1 hr
    rw [L.has r c hc]; rfl
  have hro : ∀ b, (ctx w0 w ro phi s).ro b → (ctxE w (fun r => phi (g r)) hin).ro b := by
    intro b hb
    refine ⟨h.rob b hb, fun r hr hp => ?_⟩
    obtain ⟨c, hc⟩ := Option.isSome_iff_exists.1 hr
    rcases h.liv _ _ (L.has r c hc) with ⟨h1, _⟩ | ⟨b', _, _, h1, _, h2, _⟩ | ⟨b', _, _, h1, _, _, h2, _⟩
    · have hp' : phi (g r) = some b := hp
      rw [h1] at hp'; cases hp'
    · have hp' : phi (g r) = some b := hp
      rw [h1] at hp'; cases hp'
      exact h2 hb
    · have hp' : phi (g r) = some b := hp
      rw [h1] at hp'; cases hp'
      exact h2 hb
  have hinj0 := L.injI
  refine (hs w vs (fun r => phi (g r)) h.goodW (fun r b hr hp => by obtain ⟨c, hc⟩ := Option.isSome_iff_exists.1 hr; exact h.regGood (L.has r c hc) hp) ?_ ?_ ?_ hl).mono fun x w' hpost => ?_
  · intro r r' b h1 h2 h3 h4
    exact hinj0 r r' h1 h2 (h.inj _ _ b (hlv r h1) (hlv r' h2) h3 h4)
  · intro r c hc
    obtain ⟨ho, hrf⟩ := L.ownI r c hc
    rcases h.liv _ _ (L.has r c hc) with ⟨h1, h2, _⟩ | ⟨b, cur, e, h1, h2, _, _, h5⟩ | ⟨b, o, h0, h1, h2, h3, _⟩
    · refine .inl ⟨h1, ?_⟩
      obtain ⟨fl, cs⟩ := c
      simp only [renR, renL_map] at h2
      exact List.map_eq_nil_iff.1 h2
    case inr.inr => exact .inr (.inr ⟨b, o, renR_ob h0, h1, h2, h3⟩)
    · refine .inr (.inl ?_)
      exact ⟨b, cur, e, h1, h2, simR_in (q := true) (C := ctxE w (fun r => phi (g r)) hin) (D := ctx w0 w ro phi s) rfl (fun _ => hro) (fun _ => rfl) (fun _ r _ => rfl) ho hrf h5⟩
  · exact hv
  obtain ⟨v, phi', rfl, hos, htape, hout', hsize, hsame, hkept, hshp, hinj, hnew, hregs, hres⟩ := hpost
  have hnone : ∀ r, ¬ (hin r).isSome = true → hin r = none := fun r hr => by
    cases hh : hin r with
    | none => rfl
    | some c => rw [hh] at hr; simp at hr
  classical
  let phiD : Nat → Option Nat := fun q => if hq : ∃ r, (hout r).isSome = true ∧ g r = q then phi' hq.choose else phi q
  have hphi : ∀ r, (hout r).isSome = true → phiD (g r) = phi' r := by
    intro r hr
    have hq : ∃ r', (hout r').isSome = true ∧ g r' = g r := ⟨r, hr, rfl⟩
    show (if hq : ∃ r', (hout r').isSome = true ∧ g r' = g r then phi' hq.choose else phi (g r)) = _
    rw [dif_pos hq, L.inj _ _ hq.choose_spec.1 hr hq.choose_spec.2]
  have hphiO : ∀ q, (∀ r, (hout r).isSome = true → g r ≠ q) → phiD q = phi q := by
    intro q hq
    show (if hq : ∃ r', (hout r').isSome = true ∧ g r' = q then phi' hq.choose else phi q) = _
    rw [dif_neg]
    rintro ⟨r, h1, h2⟩
    exact hq r h1 h2
  have hphiS : ∀ q, ((s.drop p).hp q).isSome = true → phiD q = phi q := by
    intro q hq
    by_cases hx : ∃ r, (hout r).isSome = true ∧ g r = q
    · obtain ⟨r, h1, rfl⟩ := hx
      rw [hphi r h1]
      by_cases hi : (hin r).isSome = true
      · exact hsame r hi (L.lt r h1)
      · rw [(L.fresh r h1 (hnone r hi)).1] at hq; simp at hq
    · exact hphiO q fun r h1 h2 => hx ⟨r, h1, h2⟩
  have hlive : ∀ q, ((s.drop p).hp q).isSome = true → (hp' q).isSome = true := by
    intro q hq
    by_cases hx : ∃ r, (hout r).isSome = true ∧ g r = q
    · obtain ⟨r, h1, rfl⟩ := hx
      obtain ⟨c, hc⟩ := Option.isSome_iff_exists.1 h1
      rw [L.new r c hc]; rfl
    · rw [L.old q fun r h1 h2 => hx ⟨r, h1, h2⟩]; exact hq
  -- blocks that a region of the caller's, not lent, has are as they were
  have hlentb : ∀ r b, (hin r).isSome = true → phi (g r) = some b → b < w.heap.size := by
    intro r b hr hp
    obtain ⟨c, hc⟩ := Option.isSome_iff_exists.1 hr
    rcases h.liv _ _ (L.has r c hc) with ⟨h1, _⟩ | ⟨b', _, _, h1, h2, _⟩ | ⟨b', _, _, h1, h2, _⟩
    · rw [h1] at hp; cases hp
    · rw [h1] at hp; cases hp; exact lt_of_get h2
    · rw [h1] at hp; cases hp; exact lt_of_get h2
  have hle : (ctx w0 w ro phi (s.drop p)).Le (ctx w0 w' ro phiD ⟨(s.drop p).tm, hp'⟩) := by
    refine ⟨fun b hb => ⟨hb, hkept b (h.rob b hb) (hro b hb).2⟩, Nat.le_refl _, id, fun _ q _ hl => ⟨hlive q hl, hphiS q hl⟩, fun _ q b cur e _ _ _ hb => ?_⟩
    obtain ⟨cur', k1, k2⟩ := hshp b cur e (0, 0) hb
    exact ⟨cur', k1, by omega⟩
  have hD : ∀ r, (ctxX w w' phi' hout).live r = true → (ctx w0 w' ro phiD ⟨(s.drop p).tm, hp'⟩).live (g r) = true ∧ (ctx w0 w' ro phiD ⟨(s.drop p).tm, hp'⟩).phi (g r) = (ctxX w w' phi' hout).phi r := by
    intro r hr
    obtain ⟨c, hc⟩ := Option.isSome_iff_exists.1 hr
    refine ⟨?_, hphi r hr⟩
    show (hp' (g r)).isSome = true
    rw [L.new r c hc]; rfl
  have hb0 : ∀ r b, (hout r).isSome = true → phi' r = some b → (hin r).isSome = true ∧ phi (g r) = some b ∨ hin r = none ∧ (w.heap.size ≤ b ∨ ∃ r', gvb ≤ r' ∧ (hin r').isSome = true ∧ phi (g r') = some b) := by
    intro r b hr hp
    by_cases hi : (hin r).isSome = true
    · exact .inl ⟨hi, by rw [← hsame r hi (L.lt r hr)]; exact hp⟩
    · exact .inr ⟨hnone r hi, hnew r b hr (hnone r hi) hp⟩
  have hgone : ∀ q r' b, ((s.drop p).hp q).isSome = true → gvb ≤ r' → (hin r').isSome = true → phi (g r') = some b → phi q = some b → False := by
    intro q r' b hq hge hi hp hpq
    have e := h.inj _ _ b (hsub q hq).1 (hlv r' hi) hpq hp
    exact (hsub q hq).2 (e ▸ (L.gone r' hi).2 hge)
  refine ⟨v, phiD, rfl, ?_, simV_out g (ctxX w w' phi' hout) (ctx w0 w' ro phiD ⟨(s.drop p).tm, hp'⟩) rfl (fun _ => rfl) (fun _ => hD) res v L.ownR hres⟩
  -- each region of the state behind: of the callee's, or an old one
  have hcase : ∀ q, (hp' q).isSome = true → (∃ r, (hout r).isSome = true ∧ g r = q) ∨ ((∀ r, (hout r).isSome = true → g r ≠ q) ∧ ((s.drop p).hp q).isSome = true) := by
    intro q hq
    by_cases hx : ∃ r, (hout r).isSome = true ∧ g r = q
    · exact .inl hx
    · have hn : ∀ r, (hout r).isSome = true → g r ≠ q := fun r h1 h2 => hx ⟨r, h1, h2⟩
      exact .inr ⟨hn, by rw [← L.old q hn]; exact hq⟩
  have holdb : ∀ q b, ((s.drop p).hp q).isSome = true → phi q = some b → b < w.heap.size := by
    intro q b hq hp
    replace hq := (hsub q hq).1
    obtain ⟨c, hc⟩ := Option.isSome_iff_exists.1 hq
    rcases h.liv q c hc with ⟨h1, _⟩ | ⟨b', _, _, h1, h2, _⟩ | ⟨b', _, _, h1, h2, _⟩
    · rw [h1] at hp; cases hp
    · rw [h1] at hp; cases hp; exact lt_of_get h2
    · rw [h1] at hp; cases hp; exact lt_of_get h2
  exact {
    os := hos.trans h.os, tape := htape.trans h.tape, output := hout'.trans h.output, size := Nat.le_trans h.size hsize
    kept := fun b hb hmu => by
      refine (hkept b (Nat.lt_of_lt_of_le hb h.size) fun r hr hp => ?_).trans (h.kept b hb hmu)
      obtain ⟨c, hc⟩ := Option.isSome_iff_exists.1 hr
      have hp' : phi (g r) = some b := hp
      rcases h.liv _ _ (L.has r c hc) with ⟨h1, _⟩ | ⟨b', _, _, h1, _, _, h2, _⟩ | ⟨b', _, _, h1, _, _, _, h2⟩
      · rw [h1] at hp'; cases hp'
      · rw [h1] at hp'; cases hp'
        rcases h2 with ⟨_, h2 | ⟨r', _, h2⟩⟩ | h2
        · omega
        · exact hmu _ h2
        · exact hmu _ h2.2
      · rw [h1] at hp'; cases hp'
        rcases h2 with ⟨_, h2 | ⟨r', _, h2⟩⟩ | h2
        · omega
        · exact hmu _ h2
        · exact hmu _ h2.2
    shp := fun b cur e f hb => by
      obtain ⟨c1, g1, g2⟩ := h.shp b cur e f hb
      obtain ⟨c2, g3, g4⟩ := hshp b c1 e f g1
      exact ⟨c2, g3, by omega⟩
    npb := h.npb
    gd := h.gd
    rob := fun b hb => Nat.lt_of_lt_of_le (h.rob b hb) hsize
    inj := fun q q' b hq hq' h1 h2 => by
      rcases hcase q hq with ⟨r, hr, rfl⟩ | ⟨hn, hs1⟩
      · rw [hphi r hr] at h1
        rcases hcase q' hq' with ⟨r', hr', rfl⟩ | ⟨hn', hs1'⟩
        · rw [hphi r' hr'] at h2
          rw [hinj r r' b hr hr' h1 h2]
        · have h2' : phi q' = some b := by rw [← hphiO q' hn']; exact h2
          rcases hb0 r b hr h1 with ⟨hi, hp⟩ | ⟨hi, hge | ⟨r', k1, k2, k3⟩⟩
          · exact absurd (h.inj _ _ b (hlv r hi) (hsub _ hs1').1 hp h2') (hn' r hr)
          · have := holdb q' b hs1' h2'; omega
          · exact (hgone q' r' b hs1' k1 k2 k3 h2').elim
      · have h1' : phi q = some b := by rw [← hphiO q hn]; exact h1
        rcases hcase q' hq' with ⟨r', hr', rfl⟩ | ⟨hn', hs1'⟩
        · rw [hphi r' hr'] at h2
          rcases hb0 r' b hr' h2 with ⟨hi, hp⟩ | ⟨hi, hge | ⟨r2, k1, k2, k3⟩⟩
          · exact absurd (h.inj _ _ b (hsub _ hs1).1 (hlv r' hi) h1' hp).symm (hn r' hr')
          · have := holdb q b hs1 h1'; omega
          · exact (hgone q r2 b hs1 k1 k2 k3 h1').elim
        · exact h.inj q q' b (hsub _ hs1).1 (hsub _ hs1').1 h1' (by rw [← hphiO q' hn']; exact h2)
    liv := fun q c hc => by
      rcases hcase q (by have hc1 : hp' q = some c := hc
                         rw [hc1]; rfl) with ⟨r, hr, rfl⟩ | ⟨hn, hs1⟩
      · obtain ⟨c0, hc0⟩ := Option.isSome_iff_exists.1 hr
        have hcc : renR g c0 = c := by
          have h1 : hp' (g r) = some c := hc
          rw [L.new r c0 hc0] at h1
          cases h1; rfl
        subst hcc
        have hsz : ∀ cs : List AV, cs = [] → renL g cs = [] := fun cs e => by rw [e]; simp [renL]
        have hnb : ∀ b, phi' r = some b → ¬ ro b := by
          intro b h1 hb
          rcases hb0 r b hr h1 with ⟨hi, hp⟩ | ⟨hi, hge | ⟨r', k1, k2, k3⟩⟩
          · exact (hro b hb).2 r hi hp
          · have := h.rob b hb; omega
          · exact (hro b hb).2 r' k2 k3
        have hown : ∀ b, phi' r = some b → (g r < pbase ∧ Mine w0 mu b ∨ pbase ≤ g r ∧ mu (g r) = some b) := by
          intro b h1
          rcases hb0 r b hr h1 with ⟨hi, hp⟩ | ⟨hi, hge | ⟨r', q1, q2, q3⟩⟩
          · obtain ⟨ci, hci⟩ := Option.isSome_iff_exists.1 hi
            rcases h.liv _ _ (L.has r ci hci) with ⟨k1, _⟩ | ⟨b', _, _, k1, _, _, k2, _⟩ | ⟨b', _, _, k1, _, _, _, k2⟩
            · rw [k1] at hp; cases hp
            · rw [k1] at hp; cases hp; exact k2
            · rw [k1] at hp; cases hp; exact k2
          · exact .inl ⟨(L.fresh r hr hi).2, .inl (Nat.le_trans h.size hge)⟩
          · refine .inl ⟨(L.fresh r hr hi).2, ?_⟩
            obtain ⟨ci, hci⟩ := Option.isSome_iff_exists.1 q2
            have key : (g r' < pbase ∧ Mine w0 mu b ∨ pbase ≤ g r' ∧ mu (g r') = some b) → Mine w0 mu b := by
              rintro (k | ⟨k, k'⟩)
              · exact k.2
              · rcases L.own r' q2 q1 with k2 | k2
                · omega
                · exact .inr ⟨_, k2, k'⟩
            rcases h.liv _ _ (L.has r' ci hci) with ⟨k1, _⟩ | ⟨b', _, _, k1, _, _, k2, _⟩ | ⟨b', _, _, k1, _, _, _, k2⟩
            · rw [k1] at q3; cases q3
            · rw [k1] at q3; cases q3; exact key k2
            · rw [k1] at q3; cases q3; exact key k2
        rcases hregs r c0 hc0 with ⟨h1, h2⟩ | ⟨b, cur, e, h1, h2, h3⟩ | ⟨b, o, rfl, h1, h2, h3⟩
        case inr.inr => exact .inr (.inr ⟨b, o, rfl, by rw [hphi r hr]; exact h1, h2, h3, hnb b h1, hown b h1⟩)
        · refine .inl ⟨by rw [hphi r hr]; exact h1, hsz _ h2, fun hge => ?_⟩
          by_cases hi : (hin r).isSome = true
          · obtain ⟨ci, hci⟩ := Option.isSome_iff_exists.1 hi
            rcases h.liv _ _ (L.has r ci hci) with ⟨k1, k2, k3⟩ | ⟨b', _, _, k1, _⟩ | ⟨b', _, _, k1, _⟩
            · exact k3 hge
            · have h1' : phi' r = none := h1
              rw [hsame r hi (L.lt r hr), k1] at h1'; cases h1'
            · have h1' : phi' r = none := h1
              rw [hsame r hi (L.lt r hr), k1] at h1'; cases h1'
          · have := (L.fresh r hr (hnone r hi)).2; omega
        · exact .inr (.inl ⟨b, cur, e, by rw [hphi r hr]; exact h1, h2, hnb b h1, hown b h1, simR_out (C := ctxX w w' phi' hout) (D := ctx w0 w' ro phiD ⟨(s.drop p).tm, hp'⟩) rfl (fun _ => rfl) (fun _ => hD) (L.ownO r c0 hc0) h3⟩)
      · have hc' : (s.drop p).hp q = some c := by rw [← L.old q hn]; exact hc
        have hne : ∀ b, phi q = some b → ∀ r, (hin r).isSome = true → phi (g r) ≠ some b := by
          intro b h1 r hr hp
          by_cases hge : r < gvb
          · exact hn r (L.stay r hr hge) (h.inj _ _ b (hlv r hr) (hsub q hs1).1 hp h1)
          · exact hgone q r b hs1 (Nat.le_of_not_lt hge) hr hp h1
        rcases h2.liv q c hc' with ⟨h1, h2, h3⟩ | ⟨b, cur, e, h1, h2, h3, h4, h5⟩ | ⟨b, o, h0, h1, h2, h3, h4, h5⟩
        · exact .inl ⟨by rw [hphiO q hn]; exact h1, h2, h3⟩
        · refine .inr (.inl ⟨b, cur, e, by rw [hphiO q hn]; exact h1, ?_, h3, h4, h5.mono hle⟩)
          rw [hkept b (lt_of_get h2) (hne b h1)]
          exact h2
        · refine .inr (.inr ⟨b, o, h0, by rw [hphiO q hn]; exact h1, ?_, h3, h4, h5⟩)
          rw [hkept b (lt_of_get h2) (hne b h1)]
          exact h2
    tms := fun t => SimV.mono _ _ _ _ hle (h2.tms t)
    slots := h.slots }
end

theorem evs_sim (h : Sim w0 mu N s a.tmps w phi ro) : ∀ args : List Operand, SimL (args.map fun x => s.ev (opd x)) (ctx w0 w ro phi s) (args.map a.eval)
  | [] => by simp [SimL]
  | x :: args => by simp only [List.map_cons, SimL]; exact ⟨h.ev x, evs_sim h args⟩

theorem Sim.bare (h : Sim w0 mu N s a.tmps w phi ro) : Sim w0 mu N ⟨fun _ => .any, s.hp⟩ a.tmps w phi ro :=
  { h with tms := fun t => by simp [SimV] }

theorem ok_callA {f : FuncId} {vs : Array Value} {xs : List AV} (hrun : (execOp a.eval o).run P w = .ok (.enter f vs) w)
    (hf : a.defers = []) (h : Sim w0 mu N s a.tmps w phi ro) (hd : ∀ k, o.dst = some k → k < N) (hsims : SimL xs (ctx w0 w ro phi s) vs.toList) (hlen : vs.size = xs.length)
    (hK : acallA P own f xs o.dst s K) : o.wp P a w (After w0 mu N K) Q := by
  unfold Oper.wp
  rw [hrun]
  rw [Oper.upon_enter]
  rcases hK with ⟨as, res, hspec, hlend, hK⟩ | ⟨_, r, z, n, cs, as, res, cs', hargs, hplain, hr, hcsp, hcsp', hresp, hspec, hK⟩ | ⟨_, as, hin, ι, ok, res, hout, g, hp', hspec, hargs, hne, hKL⟩ | ⟨_, as, hin, res, hout, g, p, hp', hspec, hargs, hG, hK⟩ | ⟨_, r, x, g, hxs, hr, hok, hspec, hK⟩ | ⟨res, hspec, hK⟩
  · have hent : Entry w as vs.toList := hlend w0 mu N a.tmps w phi ro _ h.bare hsims (by simpa using hlen)
    refine (hspec w _ h.goodW hent).mono fun e w' hpost => ?_
    obtain ⟨v, rfl, hm, hv⟩ := hpost
    show After w0 mu N K (a.put o.dst v) w'
    have adopt : ∀ (z : Nat) (cs : List AV) (n r : Nat) (y : Value), r < pbase → cs.all plainV = true → SimV (.ro true z cs n) (fresh w w') y →
        ∃ phi', Sim w0 mu N ((s.kill r).mem r (true, cs)) a.tmps w' phi' ro ∧ SimV (.sl r z 0 n) (ctx w0 w' ro phi' ((s.kill r).mem r (true, cs))) y := by
      intro z cs n r y hrp hall hv
      simp only [SimV] at hv
      rcases hv with ⟨rfl, rfl, ad, c, rfl, hnil⟩ | ⟨b, o', cap, cur, e', fz, rfl, hcell, hfr, hlen, hnc, hfresh, hs⟩
      · obtain ⟨rfl, rfl⟩ := hnil trivial
        have h1 := ((h.more_same hm).kill r).born (kill_hp s r) hrp (true, []) none rfl
        refine ⟨_, h1, ?_⟩
        simp only [SimV]
        exact ⟨rfl, by simp [ctx, AS.mem], .inl (by simp [ctx])⟩
      · obtain ⟨_, rfl, rfl, hcm, hroom⟩ := hfresh trivial
        have hsim : SimR (true, cs) (ctx w0 w ro phi s) cur.toList := by
          simp only [SimR, if_true]
          exact simL_allv hall (by simpa using hs)
        obtain ⟨phi', hp, h1⟩ := h.new hm r hrp _ hfr.1 hcell hsim
        refine ⟨phi', h1, ?_⟩
        simp only [SimV]
        exact ⟨rfl, by simp [ctx, AS.mem], .inr ⟨b, 0, cap, cur, e', hp, rfl, hcell, .inl rfl, hnc, hcm, by omega⟩⟩
    rcases hK with hK | ⟨_, r, z, cs, n, hr, hall, hK⟩
    · have hS := h.more hm (fun b => ro b ∨ w.heap.size ≤ b ∧ b < w'.heap.size) (fun _ hb => .inl hb) (fun _ hb => hb)
      have hle : (fresh w w').Le (ctx w0 w' (fun b => ro b ∨ w.heap.size ≤ b ∧ b < w'.heap.size) phi s) :=
        ⟨fun b hb => ⟨.inr hb, rfl⟩, h.size, fun e => by simp [fresh] at e, fun e => by simp [fresh] at e, fun e => by simp [fresh] at e⟩
      exact After.put hf hS hd (SimV.mono _ _ _ _ hle hv) hK
    · rcases hK with ⟨rfl, hK⟩ | ⟨rest, rfl, hrest, hK⟩
      · obtain ⟨phi', h1, h2⟩ := adopt z cs n r v (Nat.lt_of_lt_of_le (hd r hr) h.npb) hall hv
        exact After.put hf h1 hd h2 hK
      · simp only [SimV] at hv
        obtain ⟨ar, rfl, hsz, hs⟩ := hv
        obtain ⟨al⟩ := ar
        cases al with
        | nil => simp [SimL] at hs
        | cons y ys =>
          simp only [SimL] at hs
          obtain ⟨phi', h1, h2⟩ := adopt z cs n r y (Nat.lt_of_lt_of_le (hd r hr) h.npb) hall (by simpa only [SimV] using hs.1)
          refine After.put hf h1 hd ?_ hK
          simp only [SimV]
          exact ⟨_, rfl, by simpa using hsz, by simpa only [SimV] using h2, simL_allv hrest hs.2⟩
  · subst hargs
    have hlenv : vs.toList.length = as.length + 1 := by simpa using hlen
    cases hvs : vs.toList with
    | nil => rw [hvs] at hsims; simp [SimL] at hsims
    | cons v0 vs' =>
      rw [hvs] at hsims hlenv
      simp only [SimL] at hsims
      obtain ⟨h0, hs'⟩ := hsims
      have hv0 : SimV (.sl pbase z 0 n) (ctxM w (phi r)) v0 := by
        simp only [SimV] at h0 ⊢
        refine ⟨rfl, by simp [ctxM], ?_⟩
        rcases h0.2.2 with h1 | ⟨b, o', cap, cur, e', h1, h2, h3⟩
        · exact .inl (by simpa [ctxM, ctx] using h1)
        · exact .inr ⟨b, o', cap, cur, e', by simpa [ctxM, ctx] using h1, h2, h3⟩
      have hcont : ∃ size e, Cont w (phi r) cs size e := by
        rcases h.liv r _ hr with ⟨h1, h2, _⟩ | ⟨b, cur, e', h1, h2, _, _, h5⟩ | ⟨b, o, h0, _⟩
        case inr.inr => cases h0; simp [plainV] at hcsp
        · exact ⟨0, 0, by rw [h1]; exact h2⟩
        · refine ⟨cur.size, e', ?_⟩
          rw [h1]
          refine ⟨cur, h2, rfl, ?_⟩
          simp only [SimR, if_true] at h5
          exact simL_allv hcsp h5
      obtain ⟨size, el, hcont⟩ := hcont
      refine (hspec w _ v0 vs' (phi r) size el h.goodW (fun b hb => h.regGood hr hb) hvs hv0 (simL_allv hplain hs') (by simpa using hlenv) hcont).mono fun e w' hpost => ?_
      obtain ⟨v, rfl, hos, htape, hout, hsize, hkept, hcont', hv⟩ := hpost
      show After w0 mu N K (a.put o.dst v) w'
      have hS : Sim w0 mu N (s.mem r (true, cs')) a.tmps w' phi ro := by
        rcases h.liv r _ hr with ⟨h1, h2, _⟩ | ⟨b, cur, e', h1, h2, h3, h4, h5⟩ | ⟨b, o, h0, _⟩
        case inr.inr => cases h0; simp [plainV] at hcsp
        · rw [h1] at hcont' hkept
          simp only [Cont] at hcont'
          subst hcont'
          have hm : More w w' := ⟨hos, htape, hout, hsize, fun b hb => hkept b hb (by simp)⟩
          have hcs : cs = [] := h2
          subst hcs
          have : s.mem r (true, []) = s := by
            cases s
            simp only [AS.mem, AS.mk.injEq, true_and]
            funext q
            by_cases hq : q = r
            · subst hq; simp only [if_true]; exact hr.symm
            · simp [hq]
          rw [this]
          exact h.more_same hm
        · rw [h1] at hcont hcont' hkept
          obtain ⟨cur1, g1, g2, g3⟩ := hcont
          obtain ⟨cur2, k1, k2, k3⟩ := hcont'
          rw [h2] at g1
          cases g1
          refine h.write hr h1 h2 k1 (by omega) (fun k hk hlt => hkept k hlt (by simpa using hk)) hos htape hout hsize ?_
          simp only [SimR, if_true]
          exact simL_allv hcsp' k3
      refine After.put hf hS hd ?_ hK
      cases res <;> simp [plainV] at hresp
      simpa [SimV] using hv
  · obtain ⟨h1, h2⟩ := hargs w0 mu N a.tmps w phi ro _ h.bare hsims (by simpa using hlen)
    refine (lent_after h hspec hne (fun i hi => (hKL i hi).1) (vs := vs) h1 (by simpa using h2)).mono fun e w' hpost => ?_
    obtain ⟨i, hi, v, phi', rfl, hS, hv⟩ := hpost
    exact After.put hf hS hd hv (hKL i hi).2
  · obtain ⟨h1, h2⟩ := hargs w0 mu N a.tmps w phi ro _ h.bare hsims (by simpa using hlen)
    refine (given_after h hspec hG (vs := vs) h1 (by simpa using h2)).mono fun e w' hpost => ?_
    obtain ⟨v, phi', rfl, hS, hv⟩ := hpost
    exact After.put hf hS hd hv hK
  · subst hxs
    obtain ⟨vs⟩ := vs
    match vs, hsims, hlen with
    | [v0], hsims, _ =>
      simp only [SimL, and_true] at hsims
      refine (hspec v0 (cellOk_one hok hsims) w _ (fun _ => none) h.goodW (fun q b hq => by simp at hq) (fun q q' b hq => by simp at hq) (fun q c hc => by simp at hc) (by simp [SimL, SimV]) rfl).mono fun e w' hpost => ?_
      obtain ⟨v, phi', rfl, hos, htape, hout', hsize, _, hkept, _, _, hnew, hregs, hres⟩ := hpost
      have hm : More w w' := ⟨hos, htape, hout', hsize, fun b hb => hkept b hb fun q hq => by simp at hq⟩
      have hbox : boxH v0 8000000 = some (true, [.v v0]) := rfl
      rcases hregs 8000000 _ hbox with ⟨_, h2⟩ | ⟨b, cur, et, h1, h2, h3⟩ | ⟨b, o', h1, _⟩
      · simp at h2
      · have hb1 : w.heap.size ≤ b := hnew 8000000 b (by rw [hbox]; rfl) rfl h1
        have hcur : SimR (true, [x]) (ctx w0 w ro phi s) cur.toList := by
          simp only [SimR, if_true] at h3 ⊢
          cases hl : cur.toList with
          | nil => rw [hl] at h3; simp [SimL] at h3
          | cons y ys =>
            rw [hl] at h3
            simp only [SimL, SimV, and_true] at h3 ⊢
            rw [h3]
            exact cellOk_sim (fl := true) hok hsims
        obtain ⟨phi2, hp2, h4⟩ := h.new hm r (Nat.lt_of_lt_of_le (hd r hr) h.npb) _ hb1 h2 hcur
        refine After.put hf h4 hd ?_ hK
        simp only [SimV] at hres ⊢
        obtain ⟨pa, pb, k1, k2, k3, k4⟩ := hres
        refine ⟨pa, pb, k1, k2, k3, ?_⟩
        cases hl : pa.toList ++ pb.toList with
        | nil => rw [hl] at k4; simp [SimL] at k4
        | cons y ys =>
          rw [hl] at k4
          simp only [SimL, SimV, and_true] at k4 ⊢
          obtain ⟨_, _, b', k5, k6, _⟩ := k4
          have k5' : phi' 8000000 = some b' := k5
          have h1' : phi' 8000000 = some b := h1
          rw [h1'] at k5'
          cases k5'
          exact ⟨rfl, by simp [ctx, AS.mem], b, hp2, k6, cur, et, h2⟩
      · simp at h1
  · refine (hspec w _ (ctx w0 w ro phi s) h.goodW rfl hsims hlen).mono fun e w' hpost => ?_
    obtain ⟨v, rfl, hm, hv⟩ := hpost
    exact After.put hf (h.more_same hm) hd hv hK

theorem ok_call {f : FuncId} {fn : Func} {cx : Operand} {args : Array Operand} {tys : Array TypeId} (ho : o.op = .call { callee := .value cx, args, argTypes := tys }) (hcx : a.eval cx = .func (.func f) #[] #[]) (hfn : P.funcs[f]? = some fn)
    (hname : (fn.name == "runtime.NumGoroutine") = false) (hbody : fn.body.isNone = false)
    (hf : a.defers = []) (h : Sim w0 mu N s a.tmps w phi ro) (hd : ∀ k, o.dst = some k → k < N)
    (hK : acallA P own f ((args.toList.map opd).map s.ev) o.dst s K) : o.wp P a w (After w0 mu N K) Q := by
  have hrun : (execOp a.eval o).run P w = .ok (.enter f (args.map a.eval)) w := by
    have h1 : ¬ fn.name = "runtime.NumGoroutine" := by simpa using hname
    have h2 : ¬ fn.body = none := by intro e; rw [e] at hbody; cases hbody
    simp [execOp, ho, resolve, hcx, Deferred.ofValue, invoke, callFunc, hfn, h1, h2]
  refine ok_callA hrun hf h hd ?_ (by simp) hK
  rw [List.map_map, Array.toList_map]
  exact evs_sim h args.toList

theorem ok_callf {f : FuncId} {fn : Func} {cx : Operand} {args : Array Operand} {tys : Array TypeId} {l : List AV} {k : Nat} (ho : o.op = .call { callee := .value cx, args, argTypes := tys }) (hcx : SimV (.fn f l k) (ctx w0 w ro phi s) (a.eval cx)) (hfn : P.funcs[f]? = some fn)
    (hname : (fn.name == "runtime.NumGoroutine") = false) (hbody : fn.body.isNone = false)
    (hf : a.defers = []) (h : Sim w0 mu N s a.tmps w phi ro) (hd : ∀ k, o.dst = some k → k < N)
    (hK : acallA P own f (l.take k ++ (args.toList.map opd).map s.ev ++ l.drop k) o.dst s K) : o.wp P a w (After w0 mu N K) Q := by
  simp only [SimV] at hcx
  obtain ⟨p, q, hcx, hp, hq, hl⟩ := hcx
  have hrun : (execOp a.eval o).run P w = .ok (.enter f (p ++ args.map a.eval ++ q)) w := by
    have h1 : ¬ fn.name = "runtime.NumGoroutine" := by simpa using hname
    have h2 : ¬ fn.body = none := by intro e; rw [e] at hbody; cases hbody
    simp [execOp, ho, resolve, hcx, Deferred.ofValue, invoke, callFunc, hfn, h1, h2]
  have e1 : (p.toList ++ q.toList).take k = p.toList := by
    rw [List.take_append_of_le_length (by simp; omega), List.take_of_length_le (by simp; omega)]
  have e2 : (p.toList ++ q.toList).drop k = q.toList := by
    have hk : k = p.toList.length := by simp [hp]
    rw [hk, List.drop_left]
  refine ok_callA hrun hf h hd ?_ (by simp; omega) hK
  have g1 := hl.take k
  have g2 := hl.drop k
  rw [e2] at g2
  have g3 : SimL ((args.toList.map opd).map s.ev) (ctx w0 w ro phi s) (args.map a.eval).toList := by
    rw [List.map_map, Array.toList_map]
    exact evs_sim h args.toList
  have g1' : SimL (l.take k) (ctx w0 w ro phi s) p.toList := by
    refine SimL.of_get fun i x hi => ?_
    obtain ⟨y, h1, h2⟩ := g1.get hi
    have hik : i < k := by
      rw [List.getElem?_take] at hi
      by_cases h : i < k
      · exact h
      · simp [h] at hi
    rw [List.getElem?_append_left (by simp; omega)] at h1
    exact ⟨y, h1, h2⟩
  have := (g1'.append (by simp; omega) g3).append (by simp; omega) g2
  simpa using this

theorem ok_mkf {f : FuncId} {first captured : Array Operand} (ho : o.op = .makeFunc (.func f) first captured)
    (hf : a.defers = []) (h : Sim w0 mu N s a.tmps w phi ro) (hd : ∀ k, o.dst = some k → k < N)
    (hK : aexec P own (.mkf f first.size ((first ++ captured).toList.map opd)) o.dst s K) : o.wp P a w (After w0 mu N K) Q := by
  refine wp_value (v := .func (.func f) (first.map a.eval) (captured.map a.eval)) (w' := w) (by simp [execOp, ho, Instr.makeFunc]) (After.put hf h hd ?_ hK)
  simp only [SimV]
  refine ⟨_, _, rfl, by simp, by simp, ?_⟩
  have := evs_sim h (first ++ captured).toList
  rw [List.map_map]
  rw [show (Array.map a.eval first).toList ++ (Array.map a.eval captured).toList = (first ++ captured).toList.map a.eval by simp]
  exact this
end Go.Am
