/- The abstract machine, part seven: operations that make memory, and calls. -/
import Derived.Test.YtgjlaajkakecpaaAmF
namespace Go.Am
variable {P : Program} {w0 w : World} {mu : Nat → Option Nat} {N : Nat} {s : AS} {o : Oper} {a : Act} {phi : Nat → Option Nat} {ro : Nat → Prop} {K : AS → Prop} {Q : Exit → Act → World → Prop} {own : Bool}

theorem more_drew_alloc (w : World) (ob : Obj) : More w (w.drew.alloc ob) := (More.drew w).trans (More.alloc w.drew ob)

theorem simL_v {C : Ctx} : ∀ (l : List Value), SimL (l.map AV.v) C l
  | [] => by simp [SimL]
  | v :: l => by simp only [List.map_cons, SimL, SimV, true_and]; exact simL_v l

theorem made_flat (zs : List Value) : ∀ n : Nat, madeCells zs.toArray (n * zs.length) = ((List.replicate n zs).flatten).toArray := by
  intro n
  by_cases hz : zs.length = 0
  · have : zs = [] := List.eq_nil_of_length_eq_zero hz
    subst this
    simp [madeCells]
  · apply Array.ext
    · simp [size_madeCells]
    · intro i h1 h2
      simp only [madeCells, Array.getElem_map, Array.getElem_range, List.size_toArray, List.getElem_toArray]
      have hlt : i < n * zs.length := by simpa [size_madeCells] using h1
      clear h1
      induction n generalizing i with
      | zero => simp at hlt
      | succ n ih =>
        simp only [List.replicate_succ, List.flatten_cons]
        by_cases hi : i < zs.length
        · rw [List.getElem_append_left hi]
          simp [Nat.mod_eq_of_lt hi, hi]
        · rw [List.getElem_append_right (by omega)]
          have hm : i % zs.length = (i - zs.length) % zs.length := by
            rw [← Nat.mod_eq_sub_mod (by omega)]
          rw [hm]
          have hlt2 : i - zs.length < n * zs.length := by
            rw [Nat.succ_mul] at hlt; omega
          exact ih (i - zs.length) (by simpa using hlt2) hlt2

theorem replicate_map_flatten (zs : List Value) (n : Nat) : (List.replicate n (zs.map AV.v)).flatten = ((List.replicate n zs).flatten).map AV.v := by
  rw [List.map_flatten, List.map_replicate]

theorem replicate_flatten_prefix {C : Ctx} (zs : List Value) (n m : Nat) (h : n ≤ m) : SimL ((List.replicate n (zs.map AV.v)).flatten) C ((List.replicate m zs).flatten) := by
  obtain ⟨k, rfl⟩ := Nat.le.dest h
  rw [replicate_map_flatten, ← List.replicate_append_replicate, List.flatten_append]
  exact (simL_v _).longer

theorem ok_mk {t e : TypeId} {l c : Operand} {i : TypeInfo} {z : Value} (ho : o.op = .makeSlice t l c) (ht : P.underlying t = some (.slice e)) (hi : P.info? e = some i) (hz : i.zero = some z) (hzs : z.cells.size = i.size)
    (hf : a.defers = []) (h : Sim w0 mu N s a.tmps w phi ro) (hd : ∀ k, o.dst = some k → k < N)
    (hK : aexec P own (.mk i.size i.bytes z.cells.toList (opd l) (opd c)) o.dst s K) : o.wp P a w (After w0 mu N K) Q := by
  obtain ⟨r, kl, kc, n, m, hr, hl, hc, h0, hnm, hby, h63, hK⟩ := hK
  have hel := h.ev l
  have hec := h.ev c
  rw [hl] at hel
  rw [hc] at hec
  simp only [SimV] at hel hec
  have hrun := run_make (P := P) w t e i z ht hi hz kl kc n m h0 hnm hby h63
  have hflat : madeCells z.cells (m.toNat * i.size) = ((List.replicate m.toNat z.cells.toList).flatten).toArray := by
    have := made_flat z.cells.toList m.toNat
    rw [Array.length_toList, hzs] at this
    simpa using this
  rw [hflat] at hrun
  have hsim : SimR (true, (List.replicate n.toNat (z.cells.toList.map AV.v)).flatten) (ctx w0 w ro phi s) ((List.replicate m.toNat z.cells.toList).flatten).toArray.toList := by
    simp only [SimR, if_true]
    exact replicate_flatten_prefix _ _ _ (by omega)
  obtain ⟨phi', hp, h1⟩ := h.new (More.alloc w _) r (Nat.lt_of_lt_of_le (hd r hr) h.npb) _ (Nat.le_refl _) (heap_alloc_new w (.cells _ e)) hsim
  refine wp_value (v := .slice (some ⟨w.heap.size, 0, none⟩) n.toNat m.toNat) (w' := _) ?_ (After.put hf h1 hd ?_ hK)
  · simp [execOp, ho, hel, hec, hrun]
  · simp only [SimV]
    refine ⟨rfl, by simp [ctx, AS.mem, killR], .inr ⟨_, 0, m.toNat, _, e, hp, rfl, heap_alloc_new w _, .inl rfl, by omega, by simp [maxLen]; omega, ?_⟩⟩
    simp [hzs]

def BndV (x : Option Value) (l d : Nat) : Prop :=
  match x with
  | none => l = d
  | some y => ∃ k, y = .int k (l : Nat)

theorem run_cut {t e : TypeId} {i : TypeInfo} (ht : P.underlying t = some (.slice e)) (hi : P.info? e = some i) (ba : Option Addr) (n cap : Nat) (lo hi' : Option Value) (l h : Nat)
    (hlo : BndV lo l 0) (hhi : BndV hi' h n) (h1 : l ≤ h) (h2 : h ≤ n) (h3 : n ≤ cap) :
    (Instr.sliceAt t (.slice ba n cap) lo hi' none).run P w = .ok (.slice (if cap = l then ba else ba.map (·.add (l * i.size))) (h - l) (cap - l)) w := by
  have hsb : ∀ (k : IntKind) (x y : Nat) (code : BoundsCode), x ≤ y → (Instr.sliceBound (.int k x) y code).run P w = .ok x w := by
    intro k x y code hxy
    rw [run_sliceBound (P := P) w k x y code (by omega) (by omega)]
    simp
  have hb : (Instr.sliceBounds true n cap lo hi' none).run P w = .ok (l, h, cap) w := by
    unfold Instr.sliceBounds
    cases lo with
    | none =>
      simp only [BndV] at hlo
      subst hlo
      cases hi' with
      | none => simp only [BndV] at hhi; subst hhi; simp
      | some y =>
        obtain ⟨k, rfl⟩ := hhi
        simp [hsb k h cap _ (by omega)]
    | some x =>
      obtain ⟨kx, rfl⟩ := hlo
      cases hi' with
      | none => simp only [BndV] at hhi; subst hhi; simp [hsb kx l h _ h1]
      | some y =>
        obtain ⟨k, rfl⟩ := hhi
        simp [hsb k h cap _ (by omega), hsb kx l h _ h1]
  simp [Instr.sliceAt, run_underlying ht, Instr.slice, hb, sizeOf, typeInfo, hi]

theorem run_cut3 {t e : TypeId} {i : TypeInfo} (ht : P.underlying t = some (.slice e)) (hi : P.info? e = some i) (ba : Option Addr) (n cap : Nat) (k k' : IntKind) (h3 : n ≤ cap) :
    (Instr.sliceAt t (.slice ba n cap) none (some (.int k (n : Nat))) (some (.int k' (n : Nat)))).run P w = .ok (.slice (if n = 0 then ba else ba.map (·.add (0 * i.size))) n n) w := by
  have hsb : ∀ (k : IntKind) (x y : Nat) (code : BoundsCode), x ≤ y → (Instr.sliceBound (.int k x) y code).run P w = .ok x w := by
    intro k x y code hxy
    rw [run_sliceBound (P := P) w k x y code (by omega) (by omega)]
    simp
  have hb : (Instr.sliceBounds true n cap none (some (.int k (n : Nat))) (some (.int k' (n : Nat)))).run P w = .ok (0, n, n) w := by
    unfold Instr.sliceBounds
    simp [hsb k' n cap _ h3, hsb k n n _ (Nat.le_refl _)]
  simp [Instr.sliceAt, run_underlying ht, Instr.slice, hb, sizeOf, typeInfo, hi]
/-- A slice expression with three indexes that tells all and no room behind. -/
theorem ok_cut3 {t e : TypeId} {x hi' mx : Operand} {i : TypeInfo} (ho : o.op = .slice t x none (some hi') (some mx)) (ht : P.underlying t = some (.slice e)) (hi : P.info? e = some i)
    (hf : a.defers = []) (h : Sim w0 mu N s a.tmps w phi ro) (hd : ∀ k, o.dst = some k → k < N)
    (hK : aexec P own (.cut3 i.size (opd x) (opd hi') (opd mx)) o.dst s K) : o.wp P a w (After w0 mu N K) Q := by
  obtain ⟨fr, cs, n, k, k', he, h1, h2, hK⟩ := hK
  have hx := h.ev x
  have hy1 := h.ev hi'
  have hy2 := h.ev mx
  rw [he] at hx
  rw [h1] at hy1
  rw [h2] at hy2
  simp only [SimV] at hx hy1 hy2
  rcases hx with ⟨hn, rfl, ad, c, hy, _⟩ | ⟨b, o', cap, cur, e', fz, hy, hcell, hro, hlen, hncap, _, hs⟩
  · have hy' : a.eval x = .slice ad n c := by rw [hn]; exact hy
    have hrun := run_cut3 (P := P) (w := w) ht hi ad n c k k' (by omega)
    rw [if_pos hn] at hrun
    refine wp_value (v := .slice ad n n) (w' := w) (by simp [execOp, ho, hy', hy1, hy2, hrun]) (After.put hf h hd ?_ hK)
    simp only [SimV]
    exact .inl ⟨hn, trivial, ad, by rw [hn]⟩
  · have hrun := run_cut3 (P := P) (w := w) ht hi (some ⟨b, o', none⟩) n cap k k' hncap
    have hv : (if n = 0 then some (⟨b, o', none⟩ : Addr) else (some (⟨b, o', none⟩ : Addr)).map (·.add (0 * i.size))) = some ⟨b, o', none⟩ := by
      split
      · rfl
      · simp [addr_add]
    rw [hv] at hrun
    refine wp_value (v := .slice (some ⟨b, o', none⟩) n n) (w' := w) (by simp [execOp, ho, hy, hy1, hy2, hrun]) (After.put hf h hd ?_ hK)
    simp only [SimV]
    exact .inr ⟨b, o', cur, e', fz, rfl, hcell, hro, hlen, hs⟩

theorem opt_bound {s : AS} {C : Ctx} {a : Act} {x : Option Operand} {l d : Nat} (hev : ∀ x, SimV (s.ev (opd x)) C (a.eval x)) (h : Bnd s (x.map opd) l d) : BndV (x.map a.eval) l d := by
  cases x with
  | none => exact h
  | some x =>
    obtain ⟨k, hk⟩ := h
    have := hev x
    rw [hk] at this
    exact ⟨k, by simpa [SimV] using this⟩

theorem ok_cut {t e : TypeId} {x : Operand} {lo hi' : Option Operand} {i : TypeInfo} (ho : o.op = .slice t x lo hi' none) (ht : P.underlying t = some (.slice e)) (hi : P.info? e = some i)
    (hf : a.defers = []) (h : Sim w0 mu N s a.tmps w phi ro) (hd : ∀ k, o.dst = some k → k < N)
    (hK : aexec P own (.cut i.size (opd x) (lo.map opd) (hi'.map opd)) o.dst s K) : o.wp P a w (After w0 mu N K) Q := by
  obtain ⟨l, hh, hlo, hK⟩ := hK
  have hx := h.ev x
  have hlo' := opt_bound (d := 0) (fun y => h.ev y) hlo
  rcases hK with ⟨r, off, n, he, hhi, h1, h2, hK⟩ | ⟨fr, cs, n, he, hhi, h1, h2, hK⟩ | ⟨he, rfl, rfl, hhi, hK⟩
  case inr.inr =>
    have hhi' := opt_bound (d := 0) (fun y => h.ev y) hhi
    rw [he] at hx
    simp only [SimV] at hx
    have hrun := run_cut (P := P) (w := w) ht hi none 0 0 _ _ 0 0 hlo' hhi' (Nat.le_refl _) (Nat.le_refl _) (Nat.le_refl _)
    refine wp_value (v := .slice none 0 0) (w' := w) ?_ (After.put hf h hd (by simp [SimV]) hK)
    simp [execOp, ho, hx, hrun]
  · have hhi' := opt_bound (d := n) (fun y => h.ev y) hhi
    rw [he] at hx
    simp only [SimV] at hx
    obtain ⟨hc, hl, hx⟩ := hx
    rcases hx with ⟨hp, rfl, rfl, hy⟩ | ⟨b, o', cap, cur, e', hb, hy, hcell, hoff, hcap, hml, hroom⟩
    · have hrun := run_cut (P := P) (w := w) ht hi none 0 0 _ _ l hh hlo' hhi' h1 h2 (Nat.le_refl _)
      have : l = 0 := by omega
      subst this
      have : hh = 0 := by omega
      subst this
      refine wp_value (v := .slice none 0 0) (w' := w) ?_ (After.put hf h hd ?_ hK)
      · simp [execOp, ho, hy, hrun]
      · simp only [SimV]
        exact ⟨hc, hl, .inl (by simp [hp])⟩
    · have hrun := run_cut (P := P) (w := w) ht hi (some ⟨b, o', none⟩) n cap _ _ l hh hlo' hhi' h1 h2 hcap
      by_cases hcl : cap = l
      · rw [if_pos hcl] at hrun
        refine wp_value (v := .slice (some ⟨b, o', none⟩) (hh - l) (cap - l)) (w' := w) ?_ (After.put hf h hd ?_ hK)
        · simp [execOp, ho, hy, hrun]
        · simp only [SimV]
          refine ⟨hc, hl, .inr ⟨b, o', cap - l, cur, e', hb, rfl, hcell, ?_, by omega, by omega, ?_⟩⟩
          · by_cases hl0 : l * i.size = 0
            · rcases hoff with hoff | hoff
              · exact .inl (by omega)
              · exact .inr ⟨by omega, by omega⟩
            · exact .inr ⟨by omega, by omega⟩
          · have : (cap - l) * i.size ≤ cap * i.size := Nat.mul_le_mul_right _ (by omega)
            omega
      · rw [if_neg hcl] at hrun
        simp only [Option.map_some, addr_add] at hrun
        refine wp_value (v := .slice (some ⟨b, o' + l * i.size, none⟩) (hh - l) (cap - l)) (w' := w) ?_ (After.put hf h hd ?_ hK)
        · simp [execOp, ho, hy, hrun]
        · simp only [SimV]
          refine ⟨hc, hl, .inr ⟨b, _, cap - l, cur, e', hb, rfl, hcell, ?_, by omega, by omega, ?_⟩⟩
          · rcases hoff with hoff | hoff
            · exact .inl (by omega)
            · exact .inr ⟨by omega, by omega⟩
          · have : l * i.size + (cap - l) * i.size = cap * i.size := by rw [← Nat.add_mul]; congr 1; omega
            omega
  · have hhi' := opt_bound (d := n) (fun y => h.ev y) hhi
    rw [he] at hx
    simp only [SimV] at hx
    rcases hx with ⟨rfl, rfl, ad, c, hy, _⟩ | ⟨b, o', cap, cur, e', fz, hy, hcell, hro, hlen, hncap, _, hs⟩
    · have hrun := run_cut (P := P) (w := w) ht hi ad 0 c _ _ l hh hlo' hhi' h1 h2 (Nat.zero_le _)
      have : hh = 0 := by omega
      subst this
      have : l = 0 := by omega
      subst this
      refine wp_value (v := .slice (if c = 0 then ad else ad.map (·.add (0 * i.size))) (0 - 0) (c - 0)) (w' := w) (by simp [execOp, ho, hy, hrun]) (After.put hf h hd ?_ hK)
      simp [SimV]
    · have hrun := run_cut (P := P) (w := w) ht hi (some ⟨b, o', none⟩) n cap _ _ l hh hlo' hhi' h1 h2 hncap
      by_cases hcl : cap = l
      · rw [if_pos hcl] at hrun
        have : hh = l := by omega
        subst this
        refine wp_value (v := .slice (some ⟨b, o', none⟩) (hh - hh) (cap - hh)) (w' := w) ?_ (After.put hf h hd ?_ hK)
        · simp [execOp, ho, hy, hrun]
        · simp only [SimV]
          exact .inl ⟨by omega, by simp, some ⟨b, o', none⟩, cap - hh, by simp, by simp⟩
      · rw [if_neg hcl] at hrun
        simp only [Option.map_some, addr_add] at hrun
        refine wp_value (v := .slice (some ⟨b, o' + l * i.size, none⟩) (hh - l) (cap - l)) (w' := w) ?_ (After.put hf h hd ?_ hK)
        · simp [execOp, ho, hy, hrun]
        · simp only [SimV]
          refine .inr ⟨b, _, cap - l, cur, e', fz, rfl, hcell, hro, ?_, by omega, by simp, ?_⟩
          · have h5 : l * i.size + (hh - l) * i.size = hh * i.size := by rw [← Nat.add_mul]; congr 1; omega
            have h6 : hh * i.size ≤ n * i.size := Nat.mul_le_mul_right _ h2
            simp only [List.length_take, List.length_drop, hlen]
            omega
          · have := (hs.drop (l * i.size)).take ((hh - l) * i.size)
            rwa [List.drop_drop] at this
end Go.Am
