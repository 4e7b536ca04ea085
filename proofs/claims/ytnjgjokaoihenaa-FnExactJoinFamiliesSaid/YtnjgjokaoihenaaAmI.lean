/- The abstract machine, part nine: variables, literals, calls; a region's operations one after the other. -/
import Derived.Test.YtnjgjokaoihenaaAmH
namespace Go.Am
variable {P : Program} {w0 w : World} {mu : Nat → Option Nat} {N : Nat} {s : AS} {o : Oper} {a : Act} {phi : Nat → Option Nat} {ro : Nat → Prop} {K : AS → Prop} {Q : Exit → Act → World → Prop} {own : Bool}

theorem ok_newvar {v : Value} {e : TypeId} {fl : Bool} {cs : List AV} {r : Nat} (hrun : (execOp a.eval o).run P w = .ok (.value (.pointer (some ⟨w.heap.size, 0, none⟩))) (w.alloc (.cells v.cells e)))
    (hf : a.defers = []) (h : Sim w0 mu N s a.tmps w phi ro) (hd : ∀ k, o.dst = some k → k < N) (hs : SimR (fl, cs) (ctx w0 w ro phi s) v.cells.toList) (hr : o.dst = some r)
    (hK : K (((s.kill r).mem r (killR r (fl, cs))).put o.dst (.pt r 0))) : o.wp P a w (After w0 mu N K) Q := by
  obtain ⟨phi', hp, h1⟩ := h.new (More.alloc w _) r (Nat.lt_of_lt_of_le (hd r hr) h.npb) _ (Nat.le_refl _) (heap_alloc_new w (.cells _ e)) hs
  refine wp_value hrun (After.put hf h1 hd ?_ hK)
  simp only [SimV]
  exact ⟨rfl, by simp [ctx, AS.mem], _, hp, rfl⟩

theorem ok_alloc {t : TypeId} {i : TypeInfo} {z : Value} (ho : o.op = .alloc t) (hi : P.info? t = some i) (hz : i.zero = some z)
    (hf : a.defers = []) (h : Sim w0 mu N s a.tmps w phi ro) (hd : ∀ k, o.dst = some k → k < N)
    (hK : aexec P own (.alloc z.cells.toList) o.dst s K) : o.wp P a w (After w0 mu N K) Q := by
  obtain ⟨r, hr, hK⟩ := hK
  refine ok_newvar (v := z) (e := t) (fl := true) (cs := z.cells.toList.map AV.v) (r := r) ?_ hf h hd (by simp only [SimR, if_true]; exact simL_v _) hr hK
  simp [execOp, ho, Instr.alloc, zeroValue, typeInfo, hi, hz, newVar, newRow]

theorem ok_box {t : TypeId} {x : Operand} {k : Nat} (ho : o.op = .box t x)
    (hf : a.defers = []) (h : Sim w0 mu N s a.tmps w phi ro) (hd : ∀ k, o.dst = some k → k < N)
    (hK : aexec P own (.box k (opd x)) o.dst s K) : o.wp P a w (After w0 mu N K) Q := by
  obtain ⟨r, fl, hr, hK⟩ := hK
  have hx := h.ev x
  have hrun : (execOp a.eval o).run P w = .ok (.value (.pointer (some ⟨w.heap.size, 0, none⟩))) (w.alloc (.cells (a.eval x).cells t)) := by
    simp [execOp, ho, Instr.box, newVar, newRow]
  rcases hK with ⟨_, hok, hK⟩ | ⟨l, hl, hok, hK⟩
  · have h1 := cellOk_one hok hx
    have hcells : (a.eval x).cells = #[a.eval x] := by
      generalize a.eval x = v at h1
      cases v <;> first | rfl | (simp [Value.oneCell'] at h1)
    refine ok_newvar hrun hf h hd (fl := fl) (cs := [s.ev (opd x)]) ?_ hr hK
    rw [hcells]
    unfold SimR
    have := cellOk_sim hok hx
    cases fl <;> simpa [SimL] using this
  · rw [hl] at hx
    simp only [SimV] at hx
    obtain ⟨ar, hv, hsz, hs⟩ := hx
    refine ok_newvar hrun hf h hd (fl := fl) (cs := l) ?_ hr hK
    rw [hv]
    unfold SimR
    have := cellOk_simL hok hs
    cases fl <;> simpa [Value.cells] using this

theorem fill_foldl (off : Nat) : ∀ (l : List Value) (k : Nat) (cells : Array Value), off + k + l.length ≤ cells.size →
    ((l.zipIdx k).foldl (fun (cs : Array Value) (p : Value × Nat) => cs.setIfInBounds (off + p.2) p.1) cells).toList = cells.toList.take (off + k) ++ l ++ cells.toList.drop (off + k + l.length)
  | [], k, cells, h => by simp
  | v :: l, k, cells, h => by
    simp only [List.length_cons] at h
    rw [List.zipIdx_cons, List.foldl_cons, fill_foldl off l (k + 1) _ (by simp; omega)]
    simp only [Array.toList_setIfInBounds]
    apply List.ext_getElem?
    intro j
    simp only [List.getElem?_append, List.length_append, List.length_take, List.length_set, Array.length_toList, List.getElem?_take, List.getElem?_set, List.getElem?_drop, List.length_cons, List.getElem?_cons]
    by_cases h1 : j < off + k
    · have e1 : j < min (off + (k + 1)) cells.size := by omega
      have e2 : j < min (off + k) cells.size := by omega
      have e3 : j < off + (k + 1) := by omega
      have e4 : ¬ off + k = j := by omega
      have e5 : j < min (off + (k + 1)) cells.size + l.length := by omega
      have e6 : j < min (off + k) cells.size + (l.length + 1) := by omega
      simp [e1, e2, e3, e4, e5, e6, h1]
    · by_cases h2 : j = off + k
      · subst h2
        have e1 : off + k < min (off + (k + 1)) cells.size := by omega
        have e2 : ¬ off + k < min (off + k) cells.size := by omega
        have e3 : off + k < off + (k + 1) := by omega
        have e5 : off + k < min (off + (k + 1)) cells.size + l.length := by omega
        have e6 : off + k < min (off + k) cells.size + (l.length + 1) := by omega
        have e7 : off + k - min (off + k) cells.size = 0 := by omega
        have e8 : off + k < cells.size := by omega
        simp [e1, e2, e3, e5, e6, e7, e8]
      · have e1 : ¬ j < min (off + (k + 1)) cells.size := by omega
        have e2 : ¬ j < min (off + k) cells.size := by omega
        have e7 : ¬ j - min (off + k) cells.size = 0 := by omega
        have e9 : j - min (off + k) cells.size - 1 = j - min (off + (k + 1)) cells.size := by omega
        by_cases h3 : j < off + (k + 1) + l.length
        · have e5 : j < min (off + (k + 1)) cells.size + l.length := by omega
          have e6 : j < min (off + k) cells.size + (l.length + 1) := by omega
          simp [e1, e2, e5, e6, e7, e9]
        · have e5 : ¬ j < min (off + (k + 1)) cells.size + l.length := by omega
          have e6 : ¬ j < min (off + k) cells.size + (l.length + 1) := by omega
          have e10 : ¬ off + k = off + (k + 1) + l.length + (j - (min (off + (k + 1)) cells.size + l.length)) := by omega
          have e11 : off + (k + 1) + l.length + (j - (min (off + (k + 1)) cells.size + l.length)) = off + k + (l.length + 1) + (j - (min (off + k) cells.size + (l.length + 1))) := by omega
          simp [e5, e6, e10]
          rw [e11]

theorem fill_one (off : Nat) (v : Value) (cells : Array Value) (h : off + v.cells.size ≤ cells.size) :
    (v.cells.zipIdx.foldl (fun (cs : Array Value) (p : Value × Nat) => cs.setIfInBounds (off + p.2) p.1) cells).toList = cells.toList.take off ++ v.cells.toList ++ cells.toList.drop (off + v.cells.size) := by
  have := fill_foldl off v.cells.toList 0 cells (by simpa using h)
  rw [← Array.foldl_toList, Array.toList_zipIdx]
  simpa using this

theorem fill_sim {z : Nat} {fl : Bool} {D : Ctx} (hD : D = if fl then (ctx w0 w ro phi s).out else ctx w0 w ro phi s) (h : Sim w0 mu N s a.tmps w phi ro) :
    ∀ (parts : List (Nat × Operand)) (cs out : List AV) (cells : Array Value), afill s z fl cs (parts.map fun p => (p.1, opd p.2)) out → SimL cs D cells.toList → cells.size = cs.length →
      ∃ cells', Instr.fill (fun i => some (i * z, z)) cells (parts.map fun p => (p.1, a.eval p.2)) = some cells' ∧ SimL out D cells'.toList ∧ cells'.size = out.length
  | [], cs, out, cells, hfill, hs, hsz => by
    simp only [List.map_nil, afill] at hfill
    subst hfill
    exact ⟨cells, by simp [Instr.fill], hs, hsz⟩
  | (i, x) :: parts, cs, out, cells, hfill, hs, hsz => by
    simp only [List.map_cons, afill] at hfill
    have hx := h.ev x
    have step : ∀ (cs' : List AV), afill s z fl cs' (parts.map fun p => (p.1, opd p.2)) out → (a.eval x).cells.size = z → i * z + z ≤ cells.size →
        SimL cs' D (cells.toList.take (i * z) ++ (a.eval x).cells.toList ++ cells.toList.drop (i * z + z)) → cs'.length = cells.size →
        ∃ cells', Instr.fill (fun i => some (i * z, z)) cells (((i, x) :: parts).map fun p => (p.1, a.eval p.2)) = some cells' ∧ SimL out D cells'.toList ∧ cells'.size = out.length := by
      intro cs' hf' hz hle hs' hl'
      have h1 := fill_one (i * z) (a.eval x) cells (by omega)
      rw [hz] at h1
      have hs'' : SimL cs' D ((a.eval x).cells.zipIdx.foldl (fun (cs : Array Value) (p : Value × Nat) => cs.setIfInBounds (i * z + p.2) p.1) cells).toList := by rw [h1]; exact hs'
      have hsz' : ((a.eval x).cells.zipIdx.foldl (fun (cs : Array Value) (p : Value × Nat) => cs.setIfInBounds (i * z + p.2) p.1) cells).size = cs'.length := by
        rw [← Array.length_toList, h1]; simp; omega
      obtain ⟨cells', g1, g2⟩ := fill_sim hD h parts cs' out _ hf' hs'' hsz'
      refine ⟨cells', ?_, g2⟩
      simp only [List.map_cons, Instr.fill]
      rw [if_neg (by simp [hz]; omega)]
      exact g1
    rcases hfill with ⟨hz, hi, hok, hf'⟩ | ⟨l, hl, hll, hle, hok, hf'⟩
    · have h1 := cellOk_one hok hx
      have hcells : (a.eval x).cells = #[a.eval x] := by
        generalize a.eval x = v at h1
        cases v <;> first | rfl | (simp [Value.oneCell'] at h1)
      refine step _ hf' (by rw [hcells, hz]; rfl) (by rw [hz]; omega) ?_ (by simp [hsz])
      have hset : cells.toList.take (i * z) ++ (a.eval x).cells.toList ++ cells.toList.drop (i * z + z) = cells.toList.set i (a.eval x) := by
        rw [List.set_eq_take_append_cons_drop, if_pos (by simp; omega), hcells, hz]
        simp
      rw [hset]
      exact SimL.set hs (hD ▸ cellOk_sim hok hx) hi
    · rw [hl] at hx
      simp only [SimV] at hx
      obtain ⟨ar, hv, hsz2, hs2⟩ := hx
      refine step _ hf' (by rw [hv]; simp [Value.cells, hsz2, hll]) (by omega) ?_ (by simp; omega)
      have hs2' : SimL l D ar.toList := hD ▸ cellOk_simL hok hs2
      have ht : SimL (cs.take (i * z)) D (cells.toList.take (i * z)) := (SimL.take (i * z) hs).shorter _ (by simp; omega)
      have := (ht.append (by simp; omega) hs2').append (by simp; omega) (hs.drop (i * z + z))
      rw [hv]
      exact this

theorem ok_bsl {t e : TypeId} {n : Nat} {parts : Array (Nat × Operand)} {i : TypeInfo} {z : Value} (ho : o.op = .buildSlice t n parts) (ht : P.underlying t = some (.slice e)) (hi : P.info? e = some i) (hz : i.zero = some z)
    (hzs : z.cells.size = i.size) (hn : n * i.size ≤ 16777216) (hpos : 0 < i.size)
    (hf : a.defers = []) (h : Sim w0 mu N s a.tmps w phi ro) (hd : ∀ k, o.dst = some k → k < N)
    (hK : aexec P own (.bsl i.size n z.cells.toList (parts.toList.map fun p => (p.1, opd p.2))) o.dst s K) : o.wp P a w (After w0 mu N K) Q := by
  obtain ⟨r, fl, out, hr, hfill, hK⟩ := hK
  have hflat : madeCells z.cells (n * i.size) = ((List.replicate n z.cells.toList).flatten).toArray := by
    have := made_flat z.cells.toList n
    rw [Array.length_toList, hzs] at this
    simpa using this
  obtain ⟨cells', g1, g2, g3⟩ := fill_sim (z := i.size) (fl := fl) rfl h parts.toList _ out (((List.replicate n z.cells.toList).flatten).toArray) hfill
    (by
      have := replicate_flatten_prefix (C := if fl then (ctx w0 w ro phi s).out else ctx w0 w ro phi s) z.cells.toList n n (Nat.le_refl _)
      simpa using this)
    (by simp)
  have hmade : (Array.range (n * i.size)).map (z.cells[· % z.cells.size]!) = ((List.replicate n z.cells.toList).flatten).toArray := hflat
  have hrun : (execOp a.eval o).run P w = .ok (.value (.slice (some ⟨w.heap.size, 0, none⟩) n n)) (w.alloc (.cells cells' e)) := by
    have hno : ¬ (16777216 < n * i.size) := by omega
    have hp : (parts.map fun x => (x.1, a.eval x.2)).toList = parts.toList.map fun p => (p.1, a.eval p.2) := by simp
    by_cases hz0 : n * i.size = 0
    · have he : ((List.replicate n z.cells.toList).flatten).toArray = #[] := by rw [← hflat, hz0]; simp [madeCells]
      rw [he] at g1
      simp [execOp, ho, Instr.buildSlice, run_underlying ht, sizeOf, typeInfo, hi, hz0, newRow, Array.range_zero', g1]
    · simp [execOp, ho, Instr.buildSlice, run_underlying ht, sizeOf, typeInfo, hi, hno, hz0, zeroValue, hz, newRow, hmade, g1]
  have hsim : SimR (fl, out) (ctx w0 w ro phi s) cells'.toList := by unfold SimR; cases fl <;> exact g2
  obtain ⟨phi', hp, h1⟩ := h.new (More.alloc w _) r (Nat.lt_of_lt_of_le (hd r hr) h.npb) _ (Nat.le_refl _) (heap_alloc_new w (.cells _ e)) hsim
  refine wp_value hrun (After.put hf h1 hd ?_ hK)
  simp only [SimV]
  have hlen : out.length = n * i.size := by
    have key : ∀ (parts : List (Nat × Opd)) (cs out : List AV), afill s i.size fl cs parts out → out.length = cs.length := by
      intro parts
      induction parts with
      | nil => intro cs out hh; simp only [afill] at hh; rw [hh]
      | cons p parts ih =>
        intro cs out hh
        obtain ⟨j, x⟩ := p
        simp only [afill] at hh
        rcases hh with ⟨_, _, _, hh⟩ | ⟨l, _, hll, hle, _, hh⟩
        · rw [ih _ _ hh]; simp
        · rw [ih _ _ hh]; simp; omega
    rw [key _ _ _ hfill]
    simp [hzs]
  refine ⟨rfl, by simp [ctx, AS.mem], .inr ⟨_, 0, n, _, e, hp, rfl, heap_alloc_new w (.cells _ e), .inl rfl, Nat.le_refl _, ?_, by omega⟩⟩
  have : n ≤ n * i.size := Nat.le_mul_of_pos_right n hpos
  simp only [maxLen]
  omega

theorem simL_allv {C D : Ctx} : ∀ {cs : List AV} {ys : List Value}, cs.all plainV = true → SimL cs C ys → SimL cs D ys
  | [], _, _, _ => by simp [SimL]
  | _ :: _, [], _, h => by simp [SimL] at h
  | c :: cs, y :: ys, h, hs => by
    simp only [List.all_cons, Bool.and_eq_true, SimL] at h hs ⊢
    refine ⟨?_, simL_allv h.2 hs.2⟩
    cases c <;> simp [plainV] at h
    simpa [SimV] using hs.1

theorem evs_sim (h : Sim w0 mu N s a.tmps w phi ro) : ∀ args : List Operand, SimL (args.map fun x => s.ev (opd x)) (ctx w0 w ro phi s) (args.map a.eval)
  | [] => by simp [SimL]
  | x :: args => by simp only [List.map_cons, SimL]; exact ⟨h.ev x, evs_sim h args⟩

theorem Sim.bare (h : Sim w0 mu N s a.tmps w phi ro) : Sim w0 mu N ⟨fun _ => .any, s.hp⟩ a.tmps w phi ro :=
  { h with tms := fun t => by simp [SimV] }

theorem ok_call {f : FuncId} {fn : Func} {cx : Operand} {args : Array Operand} {tys : Array TypeId} (ho : o.op = .call { callee := .value cx, args, argTypes := tys }) (hcx : a.eval cx = .func (.func f) #[] #[]) (hfn : P.funcs[f]? = some fn)
    (hname : (fn.name == "runtime.NumGoroutine") = false) (hbody : fn.body.isNone = false)
    (hf : a.defers = []) (h : Sim w0 mu N s a.tmps w phi ro) (hd : ∀ k, o.dst = some k → k < N)
    (hK : acall P own f (args.toList.map opd) o.dst s K) : o.wp P a w (After w0 mu N K) Q := by
  have hrun : (execOp a.eval o).run P w = .ok (.enter f (args.map a.eval)) w := by
    have h1 : ¬ fn.name = "runtime.NumGoroutine" := by simpa using hname
    have h2 : ¬ fn.body = none := by intro e; rw [e] at hbody; cases hbody
    simp [execOp, ho, resolve, hcx, Deferred.ofValue, invoke, callFunc, hfn, h1, h2]
  have hsims := evs_sim h args.toList
  unfold Oper.wp
  rw [hrun]
  rw [Oper.upon_enter]
  rcases hK with ⟨as, res, hspec, hlend, hK⟩ | ⟨_, r, z, n, cs, as, res, cs', hargs, hplain, hr, hcsp, hcsp', hresp, hspec, hK⟩
  · have hent : Entry w as (args.map a.eval).toList := by
      rw [List.map_map] at hlend
      have h2 := hlend w0 mu N a.tmps w phi ro _ h.bare hsims (by simp)
      simpa using h2
    refine (hspec w _ hent).mono fun e w' hpost => ?_
    obtain ⟨v, rfl, hm, hv⟩ := hpost
    show After w0 mu N K (a.put o.dst v) w'
    have adopt : ∀ (z : Nat) (cs : List AV) (n r : Nat) (y : Value), r < pbase → cs.all plainV = true → SimV (.ro true z cs n) (fresh w w') y →
        ∃ phi', Sim w0 mu N ((s.kill r).mem r (true, cs)) a.tmps w' phi' ro ∧ SimV (.sl r z 0 n) (ctx w0 w' ro phi' ((s.kill r).mem r (true, cs))) y := by
      intro z cs n r y hrp hall hv
      simp only [SimV] at hv
      rcases hv with ⟨rfl, rfl, ad, c, rfl, hnil⟩ | ⟨b, o', cap, cur, e', fz, rfl, hcell, hfr, hlen, hnc, hfresh, hs⟩
      · obtain ⟨rfl, rfl⟩ := hnil trivial
        have h1 := ((h.more_same hm).kill r).born (kill_hp s r) hrp (true, []) none rfl
        refine ⟨_, h1, ?_⟩
        simp only [SimV]
        exact ⟨rfl, by simp [ctx, AS.mem], .inl (by simp [ctx])⟩
      · obtain ⟨_, rfl, rfl, hcm, hroom⟩ := hfresh trivial
        have hsim : SimR (true, cs) (ctx w0 w ro phi s) cur.toList := by
          simp only [SimR, if_true]
          exact simL_allv hall (by simpa using hs)
        obtain ⟨phi', hp, h1⟩ := h.new hm r hrp _ hfr.1 hcell hsim
        refine ⟨phi', h1, ?_⟩
        simp only [SimV]
        exact ⟨rfl, by simp [ctx, AS.mem], .inr ⟨b, 0, cap, cur, e', hp, rfl, hcell, .inl rfl, hnc, hcm, by omega⟩⟩
    rcases hK with hK | ⟨_, r, z, cs, n, hr, hall, hK⟩
    · have hS := h.more hm (fun b => ro b ∨ w.heap.size ≤ b ∧ b < w'.heap.size) (fun _ hb => .inl hb) (fun _ hb => hb)
      have hle : (fresh w w').Le (ctx w0 w' (fun b => ro b ∨ w.heap.size ≤ b ∧ b < w'.heap.size) phi s) :=
        ⟨fun b hb => ⟨.inr hb, rfl⟩, h.size, fun e => by simp [fresh] at e, fun e => by simp [fresh] at e, fun e => by simp [fresh] at e⟩
      exact After.put hf hS hd (SimV.mono _ _ _ _ hle hv) hK
    · rcases hK with ⟨rfl, hK⟩ | ⟨rest, rfl, hrest, hK⟩
      · obtain ⟨phi', h1, h2⟩ := adopt z cs n r v (Nat.lt_of_lt_of_le (hd r hr) h.npb) hall hv
        exact After.put hf h1 hd h2 hK
      · simp only [SimV] at hv
        obtain ⟨ar, rfl, hsz, hs⟩ := hv
        obtain ⟨al⟩ := ar
        cases al with
        | nil => simp [SimL] at hs
        | cons y ys =>
          simp only [SimL] at hs
          obtain ⟨phi', h1, h2⟩ := adopt z cs n r y (Nat.lt_of_lt_of_le (hd r hr) h.npb) hall (by simpa only [SimV] using hs.1)
          refine After.put hf h1 hd ?_ hK
          simp only [SimV]
          exact ⟨_, rfl, by simpa using hsz, by simpa only [SimV] using h2, simL_allv hrest hs.2⟩
  · have hargs' : args.toList.map (fun x => s.ev (opd x)) = .sl r z 0 n :: as := by rw [← hargs, List.map_map]; rfl
    rw [hargs'] at hsims
    have hvl : (args.map a.eval).toList = args.toList.map a.eval := by simp
    rw [← hvl] at hsims
    have hlenv : (args.map a.eval).toList.length = as.length + 1 := by
      have := congrArg List.length hargs'
      simp at this
      simp [this]
    cases hvs : (args.map a.eval).toList with
    | nil => rw [hvs] at hsims; simp [SimL] at hsims
    | cons v0 vs' =>
      rw [hvs] at hsims hlenv
      simp only [SimL] at hsims
      obtain ⟨h0, hs'⟩ := hsims
      have hv0 : SimV (.sl pbase z 0 n) (ctxM w (phi r)) v0 := by
        simp only [SimV] at h0 ⊢
        refine ⟨rfl, by simp [ctxM], ?_⟩
        rcases h0.2.2 with h1 | ⟨b, o', cap, cur, e', h1, h2, h3⟩
        · exact .inl (by simpa [ctxM, ctx] using h1)
        · exact .inr ⟨b, o', cap, cur, e', by simpa [ctxM, ctx] using h1, h2, h3⟩
      have hcont : ∃ size e, Cont w (phi r) cs size e := by
        rcases h.liv r _ hr with ⟨h1, h2, _⟩ | ⟨b, cur, e', h1, h2, _, _, h5⟩
        · exact ⟨0, 0, by rw [h1]; exact h2⟩
        · refine ⟨cur.size, e', ?_⟩
          rw [h1]
          refine ⟨cur, h2, rfl, ?_⟩
          simp only [SimR, if_true] at h5
          exact simL_allv hcsp h5
      obtain ⟨size, el, hcont⟩ := hcont
      refine (hspec w _ v0 vs' (phi r) size el hvs hv0 (simL_allv hplain hs') (by simpa using hlenv) hcont).mono fun e w' hpost => ?_
      obtain ⟨v, rfl, hos, htape, hout, hsize, hkept, hcont', hv⟩ := hpost
      show After w0 mu N K (a.put o.dst v) w'
      have hS : Sim w0 mu N (s.mem r (true, cs')) a.tmps w' phi ro := by
        rcases h.liv r _ hr with ⟨h1, h2, _⟩ | ⟨b, cur, e', h1, h2, h3, h4, h5⟩
        · rw [h1] at hcont' hkept
          simp only [Cont] at hcont'
          subst hcont'
          have hm : More w w' := ⟨hos, htape, hout, hsize, fun b hb => hkept b hb (by simp)⟩
          have hcs : cs = [] := h2
          subst hcs
          have : s.mem r (true, []) = s := by
            cases s
            simp only [AS.mem, AS.mk.injEq, true_and]
            funext q
            by_cases hq : q = r
            · subst hq; simp only [if_true]; exact hr.symm
            · simp [hq]
          rw [this]
          exact h.more_same hm
        · rw [h1] at hcont hcont' hkept
          obtain ⟨cur1, g1, g2, g3⟩ := hcont
          obtain ⟨cur2, k1, k2, k3⟩ := hcont'
          rw [h2] at g1
          cases g1
          refine h.write hr h1 h2 k1 (by omega) (fun k hk hlt => hkept k hlt (by simpa using hk)) hos htape hout hsize ?_
          simp only [SimR, if_true]
          exact simL_allv hcsp' k3
      refine After.put hf hS hd ?_ hK
      cases res <;> simp [plainV] at hresp
      simpa [SimV] using hv
end Go.Am
