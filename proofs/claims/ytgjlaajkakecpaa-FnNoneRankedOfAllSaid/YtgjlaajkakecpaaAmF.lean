/- The abstract machine, part six: operations that read and write memory. -/
import Derived.Test.YtgjlaajkakecpaaAmE
namespace Go.Am
variable {P : Program} {w0 w : World} {mu : Nat → Option Nat} {N : Nat} {s : AS} {o : Oper} {a : Act} {phi : Nat → Option Nat} {ro : Nat → Prop} {K : AS → Prop} {Q : Exit → Act → World → Prop} {own : Bool}

theorem wp_skip_op {w' : World} {R : Act → World → Prop}
    (hr : (execOp a.eval o).run P w = .ok .skip w') (h : R (a.put o.dst undef) w') : o.wp P a w R Q := by
  unfold Oper.wp
  rw [hr]
  exact h

theorem SimR.get {c : Bool × List AV} {C : Ctx} {ys : List Value} (h : SimR c C ys) {i : Nat} {x : AV} (hi : c.2[i]? = some x) : ∃ y, ys[i]? = some y ∧ SimV x C y := by
  unfold SimR at h
  split at h
  · obtain ⟨y, h1, h2⟩ := h.get hi
    exact ⟨y, h1, SimV.mono x C.out C y ⟨fun _ hb => ⟨hb, rfl⟩, Nat.le_refl _, fun e => by simp [Ctx.out] at e, fun e => by simp [Ctx.out] at e, fun e => by simp [Ctx.out] at e⟩ h2⟩
  · exact h.get hi

theorem out_le (C : Ctx) : C.out.Le C := ⟨fun _ hb => ⟨hb, rfl⟩, Nat.le_refl _, fun e => by simp [Ctx.out] at e, fun e => by simp [Ctx.out] at e, fun e => by simp [Ctx.out] at e⟩

theorem SimR.list {c : Bool × List AV} {C : Ctx} {ys : List Value} (h : SimR c C ys) : SimL c.2 C ys := by
  unfold SimR at h
  split at h
  · exact SimL.mono _ _ _ _ (out_le C) h
  · exact h

/-- What a region's cell is, in the model. -/
theorem Sim.cell (h : Sim w0 mu N s a.tmps w phi ro) {r b : Nat} {fl : Bool} {cs : List AV} (hr : s.hp r = some (fl, cs)) (hb : phi r = some b) {cur0 : Array Value} {e0 : TypeId} (hc : w.heap[b]? = some (.cells cur0 e0 (0, 0))) :
    ∃ cur e, w.heap[b]? = some (.cells cur e (0, 0)) ∧ SimR (fl, cs) (ctx w0 w ro phi s) cur.toList ∧ ¬ ro b ∧ (r < pbase ∧ Mine w0 mu b ∨ pbase ≤ r ∧ mu r = some b) := by
  rcases h.liv r _ hr with ⟨h1, _⟩ | ⟨b', cur, e, h1, h2, h3, h4, h5⟩ | ⟨b', o, _, h1, h2, h3, _⟩
  · simp [h1] at hb
  · rw [hb] at h1; cases h1; exact ⟨cur, e, h2, h5, h3, h4⟩
  · rw [hb] at h1; cases h1; rw [hc] at h2; cases h2; simp [isCells] at h3

theorem run_load_one {t : TypeId} {d : TypeDesc} (ht : P.underlying t = some d) (hd : ∀ fs, d ≠ .struct fs) (hd' : ∀ n e, d ≠ .array n e) {b off : Nat} {cur : Array Value} {e : TypeId} {fz : Nat × Nat} {y : Value}
    (hc : w.heap[b]? = some (.cells cur e fz)) (hy : cur[off]? = some y) : (Instr.loadAt t (.pointer (some ⟨b, off, none⟩))).run P w = .ok y w := by
  have hag : (isAgg t).run P w = .ok false w := by
    unfold isAgg
    rw [Sem.run_bind, run_underlying ht]
    cases d <;> simp_all
  have hcell : w.cell? ⟨b, off, none⟩ = some y := by rw [cell_of_row w b off cur e fz hc]; exact hy
  simp [Instr.loadAt, Instr.sureAddr, loadVar, hag, hcell]

theorem shapeT_none {t : TypeId} (h : shapeT P t = some none) : ∃ d, P.underlying t = some d ∧ (∀ fs, d ≠ .struct fs) ∧ (∀ n e, d ≠ .array n e) := by
  unfold shapeT at h
  split at h
  · simp at h
  · simp at h
  · rename_i d i h1 h2 h3 h4
    exact ⟨d, h3, fun fs e => h1 fs e, fun n el e => h2 n el e⟩
  · cases h

theorem shapeT_some {t : TypeId} {k : Nat} (h : shapeT P t = some (some k)) : ∃ d i, P.underlying t = some d ∧ P.info? t = some i ∧ i.size = k ∧ ((∃ fs, d = .struct fs) ∨ (∃ n e, d = .array n e)) := by
  unfold shapeT at h
  split at h
  · rename_i fs i h1 h2; simp at h; exact ⟨_, i, h1, h2, h, .inl ⟨fs, rfl⟩⟩
  · rename_i n e i h1 h2; simp at h; exact ⟨_, i, h1, h2, h, .inr ⟨n, e, rfl⟩⟩
  · simp at h
  · cases h

theorem run_load_agg {t : TypeId} {d : TypeDesc} {i : TypeInfo} (ht : P.underlying t = some d) (hi : P.info? t = some i) (hd : (∃ fs, d = .struct fs) ∨ (∃ n e, d = .array n e)) {b off : Nat} {cur : Array Value} {e : TypeId} {fz : Nat × Nat}
    (hc : w.heap[b]? = some (.cells cur e fz)) (hle : off + i.size ≤ cur.size) : (Instr.loadAt t (.pointer (some ⟨b, off, none⟩))).run P w = .ok (.agg ((cur.toList.drop off).take i.size).toArray) w := by
  have hag : (isAgg t).run P w = .ok true w := by
    unfold isAgg
    rw [Sem.run_bind, run_underlying ht]
    rcases hd with ⟨fs, rfl⟩ | ⟨n, el, rfl⟩ <;> simp
  have hl : ((cur.toList.drop off).take i.size).length = i.size := by simp; omega
  have hcells : ∀ (j : Nat) v, ((cur.toList.drop off).take i.size)[j]? = some v → w.cell? ((⟨b, off, none⟩ : Addr).add j) = some v := by
    intro j v hj
    rw [addr_add, cell_of_row w b (off + j) cur e fz hc]
    rw [List.getElem?_take] at hj
    split at hj
    · rw [List.getElem?_drop] at hj
      simpa using hj
    · cases hj
  have hload := run_loadCells_list (P := P) w ⟨b, off, none⟩ _ hcells
  rw [hl] at hload
  simp [Instr.loadAt, Instr.sureAddr, loadVar, hag, sizeOf, typeInfo, hi, hload]

theorem ok_ld {x : Operand} {t : TypeId} {k : Option Nat} (ho : o.op = .load t x) (hk : shapeT P t = some k) (hf : a.defers = []) (h : Sim w0 mu N s a.tmps w phi ro) (hd : ∀ k, o.dst = some k → k < N)
    (hK : aexec P own (.ld k (opd x)) o.dst s K) : o.wp P a w (After w0 mu N K) Q := by
  have hx := h.ev x
  cases k with
  | none =>
    obtain ⟨d, ht, hd1, hd2⟩ := shapeT_none hk
    rcases hK with ⟨r, off, fl, cs, c, he, hr, hc, hK⟩ | ⟨cs, c, he, hc, hK⟩
    · rw [he] at hx
      simp only [SimV] at hx
      obtain ⟨_, _, b, hb, hy, cur0, e0, hcell0⟩ := hx
      obtain ⟨cur, e, hcell, hsim, _⟩ := h.cell hr hb hcell0
      obtain ⟨y, hy1, hy2⟩ := hsim.get hc
      refine wp_value (v := y) (w' := w) ?_ (After.put hf h hd hy2 hK)
      simp [execOp, ho, hy, run_load_one ht hd1 hd2 hcell (by simpa using hy1)]
    · rw [he] at hx
      simp only [SimV] at hx
      obtain ⟨b, o', cur, e, fz, hy, hcell, _, hs⟩ := hx
      obtain ⟨y, hy1, hy2⟩ := hs.get hc
      refine wp_value (v := y) (w' := w) ?_ (After.put hf h hd (SimV.mono _ _ _ _ (out_le _) hy2) hK)
      have hy3 : cur[o']? = some y := by simpa using hy1
      simp [execOp, ho, hy, run_load_one ht hd1 hd2 hcell hy3]
  | some k =>
    obtain ⟨d, i, ht, hi, rfl, hdd⟩ := shapeT_some hk
    rcases hK with ⟨r, off, fl, cs, he, hr, hle, hK⟩ | ⟨cs, he, hle, hK⟩
    · rw [he] at hx
      simp only [SimV] at hx
      obtain ⟨_, _, b, hb, hy, cur0, e0, hcell0⟩ := hx
      obtain ⟨cur, e, hcell, hsim, _⟩ := h.cell hr hb hcell0
      have hl := hsim.list
      have hlen := hl.length_le
      simp only [Array.length_toList] at hlen
      refine wp_value (v := .agg ((cur.toList.drop off).take i.size).toArray) (w' := w) ?_ (After.put hf h hd ?_ hK)
      · have hrun := run_load_agg (P := P) (w := w) (b := b) (off := off) ht hi hdd hcell (by omega)
        simp [execOp, ho, hy, hrun]
      · simp only [SimV]
        refine ⟨_, rfl, by simp; omega, ?_⟩
        exact ((hl.drop off).take i.size).shorter i.size (by simp; omega)
    · rw [he] at hx
      simp only [SimV] at hx
      obtain ⟨b, o', cur, e, fz, hy, hcell, _, hs⟩ := hx
      have hlen := hs.length_le
      have hcell' : w.heap[b]? = some (.cells cur e fz) := hcell
      simp only [List.length_drop, Array.length_toList] at hlen
      refine wp_value (v := .agg ((cur.toList.drop o').take i.size).toArray) (w' := w) ?_ (After.put hf h hd ?_ hK)
      · by_cases hz : i.size = 0
        · by_cases hoc : o' ≤ cur.size
          · have hrun := run_load_agg (P := P) (w := w) (b := b) (off := o') ht hi hdd hcell' (by omega)
            simp [execOp, ho, hy, hrun]
          · have hag : (isAgg t).run P w = .ok true w := by
              unfold isAgg
              rw [Sem.run_bind, run_underlying ht]
              rcases hdd with ⟨fs, rfl⟩ | ⟨n, el, rfl⟩ <;> simp
            simp [execOp, ho, hy, Instr.loadAt, Instr.sureAddr, loadVar, hag, sizeOf, typeInfo, hi, hz, loadCells, loadCellsFrom]
        · have hrun := run_load_agg (P := P) (w := w) (b := b) (off := o') ht hi hdd hcell' (by omega)
          simp [execOp, ho, hy, hrun]
      · simp only [SimV]
        refine ⟨_, rfl, by simp; omega, ?_⟩
        exact SimL.mono _ _ _ _ (out_le _) ((hs.take i.size).shorter i.size (by simp; omega))

theorem cellOk_one {fl : Bool} {x : AV} {C : Ctx} {y : Value} (h : cellOk fl x = true) (hs : SimV x C y) : y.oneCell' = true := by
  cases x <;> simp only [cellOk, Bool.false_eq_true] at h
  · simp only [SimV] at hs; subst hs; exact h
  · simp only [SimV] at hs
    rcases hs with ⟨_, _, _, _, hy, _⟩ | ⟨_, _, _, _, _, _, hy, _⟩ <;> (subst hy; rfl)
  · simp only [SimV] at hs
    obtain ⟨_, _, _, _, _, hy, _⟩ := hs
    subst hy; rfl
  · simp only [SimV] at hs
    rcases hs.2.2 with ⟨_, _, _, hy⟩ | ⟨_, _, _, _, _, _, hy, _⟩ <;> (subst hy; rfl)
  · simp only [SimV] at hs
    obtain ⟨_, _, _, _, hy, _⟩ := hs
    subst hy; rfl
  · simp only [SimV] at hs
    obtain ⟨_, _, _, _, hy⟩ := hs
    subst hy; rfl
  · simp only [SimV] at hs
    obtain ⟨_, _, hy, _⟩ := hs
    subst hy; rfl
  · simp only [SimV] at hs
    obtain ⟨_, hy, _⟩ := hs
    subst hy; rfl

theorem cellOk_sim {fl : Bool} {x : AV} {C : Ctx} {y : Value} (h : cellOk fl x = true) (hs : SimV x C y) : SimV x (if fl then C.out else C) y := by
  cases fl
  · exact hs
  · cases x <;> simp only [cellOk, Bool.false_eq_true, Bool.not_true] at h <;> simpa [SimV, Ctx.out] using hs

theorem cellOk_simL {fl : Bool} {C : Ctx} : ∀ {l : List AV} {ys : List Value}, l.all (cellOk fl) = true → SimL l C ys → SimL l (if fl then C.out else C) ys
  | [], _, _, _ => by simp [SimL]
  | _ :: _, [], _, h => by simp [SimL] at h
  | x :: l, y :: ys, h, hs => by
    simp only [List.all_cons, Bool.and_eq_true, SimL] at h hs ⊢
    exact ⟨cellOk_sim h.1 hs.1, cellOk_simL h.2 hs.2⟩

theorem cellOk_oneL {fl : Bool} {C : Ctx} : ∀ {l : List AV} {ys : List Value}, l.all (cellOk fl) = true → SimL l C ys → ys.length = l.length → ∀ v ∈ ys, v.oneCell' = true
  | [], ys, _, _, hl => by
    have : ys = [] := List.eq_nil_of_length_eq_zero (by simpa using hl)
    subst this; simp
  | _ :: _, [], _, h, _ => by simp [SimL] at h
  | x :: l, y :: ys, h, hs, hl => by
    simp only [List.all_cons, Bool.and_eq_true, SimL] at h hs
    intro v hv
    rcases List.mem_cons.1 hv with rfl | hv
    · exact cellOk_one h.1 hs.1
    · exact cellOk_oneL h.2 hs.2 (by simpa using hl) v hv

theorem run_store_cells {t : TypeId} {i : TypeInfo} (hi : P.info? t = some i) {y : Value} (hsz : y.cells.size = i.size) {b off : Nat} {cur : Array Value} {e : TypeId} (hc : w.heap[b]? = some (.cells cur e (0, 0)))
    (hle : off + y.cells.size ≤ cur.size) (h1 : ∀ v ∈ y.cells.toList, v.oneCell' = true) :
    (Instr.storeAt t (.pointer (some ⟨b, off, none⟩)) y).run P w = .ok () (w.setRow b (cur.toList.take off ++ y.cells.toList ++ cur.toList.drop (off + y.cells.size)).toArray) := by
  have hst := run_storeCells_at P b off e y.cells.toList 0 cur w hc (by simpa using hle) h1
  simp only [Nat.add_zero, Array.length_toList] at hst
  simp [Instr.storeAt, Instr.sureAddr, storeVar, sizeOf, typeInfo, hi, hsz, hst]

theorem ok_st {x y : Operand} {t : TypeId} {i : TypeInfo} {k : Nat} (ho : o.op = .store t x y) (hi : P.info? t = some i) (hk : i.size = k)
    (hf : a.defers = []) (h : Sim w0 mu N s a.tmps w phi ro) (hdst : o.dst = none)
    (hK : aexec P own (.st k (opd x) (opd y)) o.dst s K) : o.wp P a w (After w0 mu N K) Q := by
  subst hk
  obtain ⟨r, off, fl, cs, he, hr, hK⟩ := hK
  have hx := h.ev x
  have hy := h.ev y
  rw [he] at hx
  simp only [SimV] at hx
  obtain ⟨_, _, b, hb, hxy, cur0, e0, hcell0⟩ := hx
  obtain ⟨cur, e, hcell, hsim, _⟩ := h.cell hr hb hcell0
  have hlen := hsim.list.length_le
  simp only [Array.length_toList] at hlen
  have fin : ∀ (ys : List Value) (cs' : List AV), (a.eval y).cells.toList = ys → ys.length = i.size → off + ys.length ≤ cur.size → (∀ v ∈ ys, v.oneCell' = true) →
      SimL cs' (if fl then (ctx w0 w ro phi s).out else ctx w0 w ro phi s) (cur.toList.take off ++ ys ++ cur.toList.drop (off + ys.length)) → K (s.mem r (fl, cs')) → o.wp P a w (After w0 mu N K) Q := by
    intro ys cs' hys hl hle h1 hs hK
    have hsz : (a.eval y).cells.size = ys.length := by rw [← hys, Array.length_toList]
    have hrun := run_store_cells (P := P) (w := w) (b := b) (off := off) hi (y := a.eval y) (by rw [hsz, hl]) hcell (by omega) (by rw [hys]; exact h1)
    rw [hys, hsz] at hrun
    refine wp_skip_op (w' := w.setRow b (cur.toList.take off ++ ys ++ cur.toList.drop (off + ys.length)).toArray) ?_ ⟨_, hK, by rw [put_defers]; exact hf, phi, ro, ?_⟩
    · simp [execOp, ho, hxy, hrun]
    · rw [hdst]
      refine h.write hr hb hcell (setRow_heap w b cur _ e _ hcell) ?_ (fun k hk _ => setRow_other w b k _ hk) rfl rfl rfl (by simp) hs
      simp
      omega
  rcases hK with ⟨hk1, hoff, hok, hK⟩ | ⟨l, hl, hll, hle, hok, hK⟩
  · have h1 := cellOk_one hok hy
    have hcells : (a.eval y).cells = #[a.eval y] := by
      generalize a.eval y = v at h1
      cases v <;> first | rfl | (simp [Value.oneCell'] at h1)
    refine fin [a.eval y] _ (by rw [hcells]) (by simp [hk1]) (by simp; omega) (by simpa using h1) ?_ hK
    have hset : cur.toList.take off ++ [a.eval y] ++ cur.toList.drop (off + [a.eval y].length) = cur.toList.set off (a.eval y) := by
      rw [List.set_eq_take_append_cons_drop, if_pos (by simp; omega)]
      simp
    rw [hset]
    exact SimL.set hsim (cellOk_sim hok hy) hoff
  · rw [hl] at hy
    simp only [SimV] at hy
    obtain ⟨ar, hv, hsz, hs⟩ := hy
    have hlen2 : ar.toList.length = l.length := by simpa using hsz
    refine fin ar.toList _ (by rw [hv]; rfl) (by omega) (by omega) (cellOk_oneL hok hs hlen2) ?_ hK
    have hs' := cellOk_simL hok hs
    have ht : SimL (cs.take off) (if fl then (ctx w0 w ro phi s).out else ctx w0 w ro phi s) (cur.toList.take off) := (SimL.take off hsim).shorter off (by simp; omega)
    have hd : SimL (cs.drop (off + i.size)) (if fl then (ctx w0 w ro phi s).out else ctx w0 w ro phi s) (cur.toList.drop (off + i.size)) := SimL.drop (off + i.size) hsim
    have := (ht.append (by simp; omega) hs').append (by simp; omega) hd
    rwa [show off + ar.toList.length = off + i.size by omega]
end Go.Am
