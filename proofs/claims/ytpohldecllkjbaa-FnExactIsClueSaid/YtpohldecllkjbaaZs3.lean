/- The abstract machine, contracts: part 3 of what this claim needs. -/
import Derived.Test.YtpohldecllkjbaaZs2
namespace Go.Am
variable {P : Program} {own : Bool} {N : Nat} {s : AS} {K : AS → Prop} {d : Option Nat}
mutual
/-- Read under other names. -/
theorem simV_ren (f : Nat → Nat) (C D : Ctx) (h1 : C.heap = D.heap) (h2 : C.ro = D.ro) (hb : C.base = D.base) (h3 : C.loc = D.loc) (h4 : ∀ r, C.live r = true → C.phi r = D.phi (f r)) :
    ∀ (x : AV) (y : Value), refsV C.live x = true → SimV (renV f x) D y → SimV x C y
  | .any, _, _, _ => by simp [SimV]
  | .v x, _, _, h => by simpa [SimV, renV] using h
  | .ro fr z cs n, y, _, h => by
    simp only [SimV, renV] at h ⊢
    rw [h1, h2, hb]
    refine h.imp_right fun ⟨b, o, cap, cur, e, fz, k1, k2, k3, k4, k5, k6, k7⟩ => ⟨b, o, cap, cur, e, fz, k1, k2, k3, k4, k5, k6, ?_⟩
    exact SimL.mono _ _ _ _ ⟨fun b hb => ⟨by rw [show C.out.ro = C.ro from rfl, h2]; exact hb, by show C.heap[b]? = D.heap[b]?; rw [h1]⟩, by show C.base ≤ D.base; omega, fun e => by simp [Ctx.out] at e, fun e => by simp [Ctx.out] at e, fun e => by simp [Ctx.out] at e⟩ k7
  | .rp cs, y, _, h => by
    simp only [SimV, renV] at h ⊢
    rw [h1, h2]
    obtain ⟨b, o, cur, e, fz, k1, k2, k3, k4⟩ := h
    refine ⟨b, o, cur, e, fz, k1, k2, k3, ?_⟩
    exact SimL.mono _ _ _ _ ⟨fun b hb => ⟨by rw [show C.out.ro = C.ro from rfl, h2]; exact hb, by show C.heap[b]? = D.heap[b]?; rw [h1]⟩, by show C.base ≤ D.base; omega, fun e => by simp [Ctx.out] at e, fun e => by simp [Ctx.out] at e, fun e => by simp [Ctx.out] at e⟩ k4
  | .sl r z off n, y, hr, h => by
    simp only [SimV, renV, refsV] at h hr ⊢
    obtain ⟨k1, k2, k3⟩ := h
    refine ⟨h3.trans k1, hr, ?_⟩
    rw [h4 r hr, h1]
    exact k3
  | .pt r off, y, hr, h => by
    simp only [SimV, renV, refsV] at h hr ⊢
    obtain ⟨k1, k2, b, k3, k4⟩ := h
    exact ⟨h3.trans k1, hr, b, by rw [h4 r hr]; exact k3, by rw [h1]; exact k4⟩
  | .mp r, y, hr, h => by
    simp only [SimV, renV, refsV] at h hr ⊢
    obtain ⟨k1, k2, b, k3, k4⟩ := h
    exact ⟨h3.trans k1, hr, b, by rw [h4 r hr]; exact k3, k4⟩
  | .itr r, y, hr, h => by
    simp only [SimV, renV, refsV] at h hr ⊢
    obtain ⟨k1, k2, b, k3, k4⟩ := h
    exact ⟨h3.trans k1, hr, b, by rw [h4 r hr]; exact k3, k4⟩
  | .ob o, y, _, h => by simp [SimV, renV] at h
  | .fn g l k, y, hr, h => by
    simp only [SimV, renV, refsV] at h hr ⊢
    obtain ⟨a, b, k1, k2, k3, k4⟩ := h
    rw [renL_map, List.length_map] at k3
    exact ⟨a, b, k1, k2, k3, simL_ren f C D h1 h2 hb h3 h4 l _ hr k4⟩
  | .fu z cs n, y, _, h => by
    simp only [SimV, renV] at h ⊢
    rw [h1, h2]
    refine h.imp_right fun ⟨b, o, cur, e, fz, k1, k2, k3, k4, k5⟩ => ⟨b, o, cur, e, fz, k1, k2, k3, k4, ?_⟩
    exact SimL.mono _ _ _ _ ⟨fun b hb => ⟨by rw [show C.out.ro = C.ro from rfl, h2]; exact hb, by show C.heap[b]? = D.heap[b]?; rw [h1]⟩, by show C.base ≤ D.base; omega, fun e => by simp [Ctx.out] at e, fun e => by simp [Ctx.out] at e, fun e => by simp [Ctx.out] at e⟩ k5
  | .rmp fr es clock, y, _, h => by
    simp only [SimV, renV] at h ⊢
    obtain ⟨b, k1, k2, k3, k4⟩ := h
    exact ⟨b, k1, by rw [h1]; exact k2, by rw [h2]; exact k3, fun e => by rw [hb]; exact k4 e⟩
  | .agg l, y, hr, h => by
    simp only [SimV, renV, refsV] at h hr ⊢
    obtain ⟨a, k1, k2, k3⟩ := h
    rw [renL_map, List.length_map] at k2
    exact ⟨a, k1, k2, simL_ren f C D h1 h2 hb h3 h4 l _ hr k3⟩
  | .tup l, y, hr, h => by
    simp only [SimV, renV, refsV] at h hr ⊢
    obtain ⟨a, k1, k2, k3⟩ := h
    rw [renL_map, List.length_map] at k2
    exact ⟨a, k1, k2, simL_ren f C D h1 h2 hb h3 h4 l _ hr k3⟩
theorem simL_ren (f : Nat → Nat) (C D : Ctx) (h1 : C.heap = D.heap) (h2 : C.ro = D.ro) (hb : C.base = D.base) (h3 : C.loc = D.loc) (h4 : ∀ r, C.live r = true → C.phi r = D.phi (f r)) :
    ∀ (l : List AV) (ys : List Value), refsL C.live l = true → SimL (renL f l) D ys → SimL l C ys
  | [], _, _, _ => by simp [SimL]
  | _ :: _, [], _, h => by simp [SimL, renL] at h
  | a :: l, y :: ys, hr, h => by
    simp only [SimL, renL, refsL, Bool.and_eq_true] at h hr ⊢
    exact ⟨simV_ren f C D h1 h2 hb h3 h4 a y hr.1 h.1, simL_ren f C D h1 h2 hb h3 h4 l ys hr.2 h.2⟩
end
theorem simL_out_any (C D : Ctx) (h1 : C.heap = D.heap) (h2 : C.ro = D.ro) (hb : C.base = D.base) (l : List AV) (ys : List Value) (h : SimL l C.out ys) : SimL l D.out ys :=
  SimL.mono _ _ _ _ ⟨fun b hb' => ⟨by rw [show D.out.ro = D.ro from rfl, ← h2]; exact hb', by show D.heap[b]? = C.heap[b]?; rw [h1]⟩, by show D.base ≤ C.base; omega, fun e => by simp [Ctx.out] at e, fun e => by simp [Ctx.out] at e, fun e => by simp [Ctx.out] at e⟩ h
/-- A region's cells under other names; one whose cells lead nowhere may be told asx one whose cells may. -/
def cellsRen (f : Nat → Nat) (c c' : Bool × List AV) : Prop := (c'.1 = true ∧ c = (true, c'.2)) ∨ (c'.1 = false ∧ (c = (false, renL f c'.2) ∨ (c'.2 = [] ∧ c.2 = []) ∨ (c = (true, c'.2) ∧ c'.2.all plainV = true)))
/-- THE RULE OF FORGETTING: the state s' tells no more than s, under the names f. -/
theorem weak_ren {s s' : AS} (f : Nat → Nat) (htm : ∀ t, s'.tm t = .any ∨ s.tm t = renV f (s'.tm t)) (hhp : ∀ r c', s'.hp r = some c' → ∃ c, s.hp (f r) = some c ∧ cellsRen f c c')
    (hinj : ∀ r r', (s'.hp r).isSome = true → (s'.hp r').isSome = true → f r = f r' → r = r') (hpb : ∀ r, (s'.hp r).isSome = true → (r < pbase ∧ f r < pbase) ∨ (pbase ≤ r ∧ f r = r))
    (href : ∀ t, refsV (fun r => (s'.hp r).isSome) (s'.tm t) = true) (hrefh : ∀ r cs, s'.hp r = some (false, cs) → refsL (fun r => (s'.hp r).isSome) cs = true) : Weak s s' := by
  intro w0 mu N a w hS
  obtain ⟨hf, phi, ro, hS⟩ := hS
  have hlive : ∀ r, (s'.hp r).isSome = true → (s.hp (f r)).isSome = true := by
    intro r hr
    obtain ⟨c, hc⟩ := Option.isSome_iff_exists.1 hr
    obtain ⟨c0, h1, _⟩ := hhp r c hc
    rw [h1]; rfl
  refine ⟨hf, fun r => phi (f r), ro, { hS with
    inj := fun r r' b h1 h2 h3 h4 => hinj r r' h1 h2 (hS.inj _ _ b (hlive r h1) (hlive r' h2) h3 h4)
    liv := fun r c hc => ?_
    tms := fun t => ?_ }⟩
  · obtain ⟨c0, h1, h2⟩ := hhp r c hc
    have hp := hpb r (by rw [hc]; rfl)
    rcases hS.liv _ _ h1 with ⟨k1, k2, k3⟩ | ⟨b, cur, e, k1, k2, k3, k4, k5⟩ | ⟨b, o, rfl, k1, k2, k0, k3, k4⟩
    case inr.inr =>
      refine .inr (.inr ⟨b, o, ?_, k1, k2, k0, k3, ?_⟩)
      · obtain ⟨fl, cs⟩ := c
        rcases h2 with ⟨h3, h4⟩ | ⟨h3, h4⟩
        · simp only at h3 h4
          rw [h3]; exact h4.symm
        · simp only at h3
          rcases h4 with h4 | ⟨_, h4⟩ | ⟨h4, h5⟩
          · cases h4
          · simp at h4
          · simp only [Prod.mk.injEq, true_and] at h4
            rw [← h4] at h5
            simp [plainV] at h5
      · rcases hp with ⟨h3, h4⟩ | ⟨h3, h4⟩
        · rcases k4 with k4 | k4
          · exact .inl ⟨h3, k4.2⟩
          · omega
        · rcases k4 with k4 | k4
          · omega
          · exact .inr ⟨h3, by rw [← h4]; exact k4.2⟩
    · refine .inl ⟨k1, ?_, fun hge => ?_⟩
      · rcases h2 with ⟨_, rfl⟩ | ⟨_, rfl | ⟨h3, _⟩ | ⟨rfl, _⟩⟩
        · exact k2
        · simp only [renL_map] at k2
          exact List.map_eq_nil_iff.1 k2
        · exact h3
        · exact k2
      · rcases hp with ⟨h3, _⟩ | ⟨_, h3⟩
        · omega
        · rw [h3] at k3; exact k3 hge
    · refine .inr (.inl ⟨b, cur, e, k1, k2, k3, ?_, ?_⟩)
      · rcases hp with ⟨h3, h4⟩ | ⟨h3, h4⟩
        · rcases k4 with k4 | k4
          · exact .inl ⟨h3, k4.2⟩
          · omega
        · rcases k4 with k4 | k4
          · omega
          · exact .inr ⟨h3, by rw [← h4]; exact k4.2⟩
      · obtain ⟨fl, cs⟩ := c
        rcases h2 with ⟨h3, h4⟩ | ⟨h3, h4⟩
        · simp only at h3 h4
          subst h3; subst h4
          simp only [SimR, if_true] at k5 ⊢
          exact simL_out_any (ctx w0 w ro phi s) (ctx w0 w ro (fun r => phi (f r)) s') rfl rfl rfl _ _ k5
        · simp only at h3 h4
          subst h3
          simp only [SimR, Bool.false_eq_true, if_false]
          rcases h4 with rfl | ⟨h5, h6⟩ | ⟨rfl, h5⟩
          · simp only [SimR, Bool.false_eq_true, if_false] at k5
            exact simL_ren f (ctx w0 w ro (fun r => phi (f r)) s') (ctx w0 w ro phi s) rfl rfl rfl rfl (fun _ _ => rfl) cs _ (hrefh r cs hc) k5
          · rw [h5]; simp [SimL]
          · simp only [SimR, if_true] at k5
            exact simL_allv h5 k5
  · rcases htm t with h1 | h1
    · rw [h1]; simp [SimV]
    · have h2 := hS.tms t
      rw [h1] at h2
      exact simV_ren f (ctx w0 w ro (fun r => phi (f r)) s') (ctx w0 w ro phi s) rfl rfl rfl rfl (fun _ _ => rfl) _ _ (href t) h2
/-- The rows of a matrix, seen from the outer slice: regions b, b + 1, .. -/
def rowsC (b : Nat) : List (List Int) → List AV
  | [] => []
  | l :: rs => .sl b 1 0 l.length :: rowsC (b + 1) rs
theorem rowsC_len (b : Nat) (rows : List (List Int)) : (rowsC b rows).length = rows.length := by
  induction rows generalizing b with
  | nil => rfl
  | cons l rs ih => simp [rowsC, ih]
theorem rowsC_get (b : Nat) (rows : List (List Int)) (j : Nat) (hj : j < rows.length) : (rowsC b rows)[j]? = some (.sl (b + j) 1 0 (rows.getD j []).length) := by
  induction rows generalizing b j with
  | nil => simp at hj
  | cons l rs ih =>
    cases j with
    | zero => simp [rowsC]
    | succ j =>
      simp only [rowsC, List.getElem?_cons_succ]
      rw [ih (b + 1) j (by simpa using hj)]
      simp; omega
theorem rowsC_snoc (b : Nat) (rows : List (List Int)) (l : List Int) : rowsC b (rows ++ [l]) = rowsC b rows ++ [.sl (b + rows.length) 1 0 l.length] := by
  induction rows generalizing b with
  | nil => simp [rowsC]
  | cons r rs ih => simp only [List.cons_append, rowsC, ih]; congr 4; simp; omega
theorem rowsC_kill (r b : Nat) (rows : List (List Int)) (h : r < b) : killL r (rowsC b rows) = rowsC b rows := by
  induction rows generalizing b with
  | nil => rfl
  | cons l rs ih =>
    have : ¬ b = r := by omega
    simp only [rowsC, killL, killV, this, if_false]
    rw [ih (b + 1) (by omega)]
theorem rowsC_ren (f : Nat → Nat) (b b' : Nat) (rows : List (List Int)) (h : ∀ j, j < rows.length → f (b + j) = b' + j) : renL f (rowsC b rows) = rowsC b' rows := by
  induction rows generalizing b b' with
  | nil => rfl
  | cons l rs ih =>
    simp only [rowsC, renL, renV]
    have h0 := h 0 (by simp)
    rw [Nat.add_zero, Nat.add_zero] at h0
    rw [h0, ih (b + 1) (b' + 1) fun j hj => by
      have := h (j + 1) (by simpa using hj)
      rw [show b + 1 + j = b + (j + 1) by omega, this]; omega]
theorem rowsC_refs (keep : Nat → Bool) (b : Nat) (rows : List (List Int)) (h : ∀ j, j < rows.length → keep (b + j) = true) : refsL keep (rowsC b rows) = true := by
  induction rows generalizing b with
  | nil => rfl
  | cons l rs ih =>
    simp only [rowsC, refsL, refsV, Bool.and_eq_true]
    refine ⟨by have := h 0 (by simp); simpa using this, ih (b + 1) fun j hj => ?_⟩
    have := h (j + 1) (by simpa using hj)
    rw [show b + 1 + j = b + (j + 1) by omega]; exact this
theorem rowsC_own (b : Nat) (rows : List (List Int)) (q : Bool) : ownL q (rowsC b rows) = true := by
  induction rows generalizing b with
  | nil => rfl
  | cons l rs ih => simp only [rowsC, ownL, ownV, Bool.true_and]; exact ih _
/-- The rows depend on their lengths alone. -/
theorem rowsC_same (b : Nat) (rows rows' : List (List Int)) (hl : rows.length = rows'.length) (h : ∀ j, j < rows.length → (rows.getD j []).length = (rows'.getD j []).length) : rowsC b rows = rowsC b rows' := by
  apply List.ext_getElem?
  intro j
  by_cases hj : j < rows.length
  · rw [rowsC_get _ _ _ hj, rowsC_get _ _ _ (by omega), h j hj]
  · rw [List.getElem?_eq_none (by rw [rowsC_len]; omega), List.getElem?_eq_none (by rw [rowsC_len]; omega)]
/-- Regions: those of h, and the rows. -/
def famH (h : Hp) (b : Nat) (rows : List (List Int)) : Hp := fun r => match h r with
  | some c => some c
  | none => if b ≤ r ∧ r < b + rows.length then some (true, (rows.getD (r - b) []).map AV.i) else none
theorem famH_row {h : Hp} {b : Nat} {rows : List (List Int)} {j : Nat} (hn : h (b + j) = none) (hj : j < rows.length) : famH h b rows (b + j) = some (true, (rows.getD j []).map AV.i) := by
  unfold famH
  rw [hn]
  simp only
  rw [if_pos ⟨by omega, by omega⟩, Nat.add_sub_cancel_left]
theorem famH_some {h : Hp} {b : Nat} {rows : List (List Int)} {r : Nat} {c : Bool × List AV} (e : famH h b rows r = some c) : h r = some c ∨ (h r = none ∧ ∃ j, j < rows.length ∧ r = b + j ∧ c = (true, (rows.getD j []).map AV.i)) := by
  unfold famH at e
  cases hr : h r with
  | some c' => rw [hr] at e; exact .inl e
  | none =>
    rw [hr] at e
    simp only at e
    split at e
    · rename_i hh
      cases e
      exact .inr ⟨rfl, r - b, by omega, by omega, rfl⟩
    · cases e
/-- A state with a matrix: the outer slice lies in region r0, its rows in regions b, b + 1, .. -/
def stM (l : List (Nat × AV)) (h : List (Nat × (Bool × List AV))) (r0 b : Nat) (rows : List (List Int)) : AS :=
  ⟨fun t => (look l t).getD .any, famH (look ((r0, (false, rowsC b rows)) :: h)) b rows⟩
theorem look_none {β : Type} {l : List (Nat × β)} {t : Nat} (h : ∀ p ∈ l, p.1 < t) : look l t = none := by
  induction l with
  | nil => rfl
  | cons p l ih =>
    have h1 := h p (List.mem_cons_self ..)
    have : ¬ t = p.1 := by omega
    obtain ⟨k, x⟩ := p
    simp only [look]
    rw [if_neg this]
    exact ih fun q hq => h q (List.mem_cons_of_mem _ hq)
theorem look_mem {β : Type} {l : List (Nat × β)} {t : Nat} {x : β} (h : look l t = some x) : (t, x) ∈ l := by
  induction l with
  | nil => simp [look] at h
  | cons p l ih =>
    obtain ⟨k, y⟩ := p
    simp only [look] at h
    split at h
    · rename_i e; subst e; cases h; exact List.mem_cons_self ..
    · exact List.mem_cons_of_mem _ (ih h)
theorem stM_row {l : List (Nat × AV)} {h : List (Nat × (Bool × List AV))} {r0 b : Nat} {rows : List (List Int)} (hk : ((r0, (false, rowsC b rows)) :: h).all (fun p => decide (p.1 < b)) = true) {j : Nat} (hj : j < rows.length) :
    (stM l h r0 b rows).hp (b + j) = some (true, (rows.getD j []).map AV.i) :=
  famH_row (look_none fun p hp => by have := List.all_eq_true.1 hk p hp; have := of_decide_eq_true this; omega) hj
def HasF (s : AS) (f : Nat → Nat) : List (Nat × AV) → Prop
  | [] => True
  | (t, x) :: l => s.tm t = renV f x ∧ HasF s f l
def HasRF (s : AS) (f : Nat → Nat) : List (Nat × (Bool × List AV)) → Prop
  | [] => True
  | (r, c) :: l => s.hp (f r) = some c ∧ HasRF s f l
theorem look_hasF {s : AS} {f : Nat → Nat} : ∀ {l : List (Nat × AV)} {t : Nat} {x : AV}, HasF s f l → look l t = some x → s.tm t = renV f x
  | [], _, _, _, h => by simp [look] at h
  | (k, y) :: l, t, x, h, e => by
    simp only [look] at e
    split at e
    · rename_i hk; subst hk; cases e; exact h.1
    · exact look_hasF h.2 e
theorem look_hasRF {s : AS} {f : Nat → Nat} : ∀ {l : List (Nat × (Bool × List AV))} {r : Nat} {c : Bool × List AV}, HasRF s f l → look l r = some c → s.hp (f r) = some c
  | [], _, _, _, h => by simp [look] at h
  | (k, y) :: l, t, x, h, e => by
    simp only [look] at e
    split at e
    · rename_i hk; subst hk; cases e; exact h.1
    · exact look_hasRF h.2 e
def nodupB : List Nat → Bool
  | [] => true
  | x :: l => !(l.contains x) && nodupB l
theorem nodupB_spec : ∀ {l : List Nat}, nodupB l = true → l.Nodup
  | [], _ => by simp
  | x :: l, h => by
    simp only [nodupB, Bool.and_eq_true, Bool.not_eq_true'] at h
    rw [List.nodup_cons]
    exact ⟨fun hm => by rw [List.contains_iff_mem.2 hm] at h; simp at h, nodupB_spec h.2⟩
/-- The names of a state that tells a matrix: f0 below b; the rows asx g says. -/
def nmF (b : Nat) (f0 g : Nat → Nat) : Nat → Nat := fun r => if r < b then f0 r else g (r - b)
/-- A state with a matrix whose outer slice has the cells cs. -/
def stC (l : List (Nat × AV)) (h : List (Nat × (Bool × List AV))) (r0 : Nat) (cs : List AV) (b : Nat) (rows : List (List Int)) : AS :=
  ⟨fun t => (look l t).getD .any, famH (look ((r0, (false, cs)) :: h)) b rows⟩
theorem stC_row {l : List (Nat × AV)} {h : List (Nat × (Bool × List AV))} {r0 b : Nat} {cs : List AV} {rows : List (List Int)} (hk : ((r0, (false, cs)) :: h).all (fun p => decide (p.1 < b)) = true) {j : Nat} (hj : j < rows.length) :
    (stC l h r0 cs b rows).hp (b + j) = some (true, (rows.getD j []).map AV.i) :=
  famH_row (look_none fun p hp => by have := List.all_eq_true.1 hk p hp; have := of_decide_eq_true this; omega) hj
/-- Forgetting, to a state with a matrix whose rows are known under the names g. -/
theorem weak_matC {s : AS} {l : List (Nat × AV)} {h : List (Nat × (Bool × List AV))} {r0 b : Nat} {cs : List AV} {rows : List (List Int)} (f0 g : Nat → Nat)
    (hl : HasF s (nmF b f0 g) l) (hh : HasRF s (nmF b f0 g) h) (hflat : (h.all fun p => p.2.1) = true) (hk : (r0 :: h.map (·.1)).all (fun r => decide (r < b ∧ f0 r < b)) = true) (hpk : (r0 :: h.map (·.1)).all (fun r => decide ((r < pbase ∧ f0 r < pbase) ∨ (pbase ≤ r ∧ f0 r = r))) = true) (hpr : ∀ j, j < rows.length → (b + j < pbase ∧ g j < pbase) ∨ (pbase ≤ b + j ∧ g j = b + j)) (hr : refsT (fun r => (r0 :: h.map (·.1)).contains r) l = true)
    (h0 : ∃ c, s.hp (f0 r0) = some c ∧ cellsRen (nmF b f0 g) c (false, cs)) (hrefc : ∀ keep : Nat → Bool, (∀ j, j < rows.length → keep (b + j) = true) → refsL keep cs = true)
    (hrow : ∀ j, j < rows.length → s.hp (g j) = some (true, (rows.getD j []).map AV.i))
    (hndB : nodupB ((r0 :: h.map (·.1)).map f0) = true) (hg : ∀ j, j < rows.length → ∀ r ∈ (r0 :: h.map (·.1)), f0 r ≠ g j) (hgi : ∀ j j', j < rows.length → j' < rows.length → g j = g j' → j = j') : Weak s (stC l h r0 cs b rows) := by
  have hnd := nodupB_spec hndB
  have hkey : ∀ r c, look ((r0, (false, cs)) :: h) r = some c → r ∈ (r0 :: h.map (·.1)) := by
    intro r c hc
    have h1 : r ∈ ((r0, (false, cs)) :: h).map (·.1) := List.mem_map.2 ⟨(r, c), look_mem hc, rfl⟩
    simpa using h1
  have hklt : ∀ r ∈ (r0 :: h.map (·.1)), r < b ∧ f0 r < b := fun r hr => of_decide_eq_true (List.all_eq_true.1 hk r hr)
  have hall : ((r0, (false, cs)) :: h).all (fun p => decide (p.1 < b)) = true := by
    rw [List.all_eq_true]
    intro p hp
    exact decide_eq_true (hklt p.1 (List.mem_map.2 ⟨p, hp, rfl⟩)).1
  have hinj0 : ∀ r ∈ (r0 :: h.map (·.1)), ∀ r' ∈ (r0 :: h.map (·.1)), f0 r = f0 r' → r = r' := by
    generalize r0 :: h.map (·.1) = ks at hnd
    clear hkey hklt hg hr hk hpk hndB
    induction ks with
    | nil => intro r hr; simp at hr
    | cons k ks ih =>
      rw [List.map_cons, List.nodup_cons] at hnd
      intro r hr r' hr' e
      rcases List.mem_cons.1 hr with h1 | h1
      · rcases List.mem_cons.1 hr' with h2 | h2
        · rw [h1, h2]
        · rw [h1] at e
          exact absurd (List.mem_map.2 ⟨r', h2, e.symm⟩) hnd.1
      · rcases List.mem_cons.1 hr' with h2 | h2
        · rw [h2] at e
          exact absurd (List.mem_map.2 ⟨r, h1, e⟩) hnd.1
        · exact ih hnd.2 r h1 r' h2 e
  have hsome : ∀ r, ((stC l h r0 cs b rows).hp r).isSome = true → (r ∈ (r0 :: h.map (·.1)) ∧ nmF b f0 g r = f0 r) ∨ ∃ j, j < rows.length ∧ r = b + j ∧ nmF b f0 g r = g j := by
    intro r hr
    obtain ⟨c, hc⟩ := Option.isSome_iff_exists.1 hr
    rcases famH_some hc with h1 | ⟨_, j, hj, rfl, _⟩
    · have hm := hkey r c h1
      exact .inl ⟨hm, by unfold nmF; rw [if_pos (hklt r hm).1]⟩
    · exact .inr ⟨j, hj, rfl, by unfold nmF; rw [if_neg (by omega), Nat.add_sub_cancel_left]⟩
  have hlive : ∀ r, r ∈ (r0 :: h.map (·.1)) → ((stC l h r0 cs b rows).hp r).isSome = true := by
    intro r hr
    show (famH (look ((r0, (false, cs)) :: h)) b rows r).isSome = true
    have : ∃ c, look ((r0, (false, cs)) :: h) r = some c := by
      have key : ∀ l : List (Nat × (Bool × List AV)), r ∈ l.map (·.1) → ∃ c, look l r = some c := by
        intro l
        induction l with
        | nil => intro h; simp at h
        | cons p l ih =>
          intro h
          obtain ⟨k, y⟩ := p
          simp only [look]
          by_cases e : r = k
          · exact ⟨y, if_pos e⟩
          · rw [if_neg e]
            rw [List.map_cons, List.mem_cons] at h
            exact ih (h.resolve_left e)
      exact key _ (by simpa using hr)
    obtain ⟨c, hc⟩ := this
    unfold famH
    rw [hc]; rfl
  have hliveR : ∀ j, j < rows.length → ((stC l h r0 cs b rows).hp (b + j)).isSome = true := fun j hj => by rw [stC_row hall hj]; rfl
  refine weak_ren (nmF b f0 g) (fun t => ?_) (fun r c' hc => ?_) (fun r r' h1 h2 h3 => ?_) (fun r h1 => ?_) (fun t => ?_) (fun r cs' hc => ?_)
  · show (look l t).getD .any = .any ∨ s.tm t = renV _ ((look l t).getD .any)
    cases hx : look l t with
    | none => exact .inl rfl
    | some x => exact .inr (look_hasF hl hx)
  · rcases famH_some hc with h1 | ⟨h1, j, hj, rfl, rfl⟩
    · have hm := hkey r c' h1
      have hnm : nmF b f0 g r = f0 r := by unfold nmF; rw [if_pos (hklt r hm).1]
      simp only [look] at h1
      split at h1
      · rename_i e
        cases h1
        rw [hnm, e]
        exact h0
      · refine ⟨_, look_hasRF hh h1, .inl ⟨?_, ?_⟩⟩
        · exact List.all_eq_true.1 hflat _ (look_mem h1)
        · have := List.all_eq_true.1 hflat _ (look_mem h1)
          obtain ⟨fl, cs⟩ := c'
          simp only at this
          subst this; rfl
    · refine ⟨_, ?_, .inl ⟨rfl, rfl⟩⟩
      unfold nmF
      rw [if_neg (by omega), Nat.add_sub_cancel_left]
      exact hrow j hj
  · rcases hsome r h1 with ⟨m1, e1⟩ | ⟨j, hj, rfl, e1⟩
    · rcases hsome r' h2 with ⟨m2, e2⟩ | ⟨j', hj', rfl, e2⟩
      · rw [e1, e2] at h3
        exact hinj0 r m1 r' m2 h3
      · rw [e1, e2] at h3
        exact absurd h3 (hg j' hj' r m1)
    · rcases hsome r' h2 with ⟨m2, e2⟩ | ⟨j', hj', rfl, e2⟩
      · rw [e1, e2] at h3
        exact absurd h3.symm (hg j hj r' m2)
      · rw [e1, e2] at h3
        rw [hgi j j' hj hj' h3]
  · rcases hsome r h1 with ⟨m1, e1⟩ | ⟨j, hj, rfl, e1⟩
    · have := of_decide_eq_true (List.all_eq_true.1 hpk r m1)
      rw [e1]; exact this
    · rw [e1]; exact hpr j hj
  · show refsV _ ((look l t).getD .any) = true
    cases hx : look l t with
    | none => rfl
    | some x =>
      have h1 := look_refs hr hx
      have key := AV.rec_1 (motive_1 := fun x => refsV (fun r => (r0 :: h.map (·.1)).contains r) x = true → refsV (fun r => ((stC l h r0 cs b rows).hp r).isSome) x = true) (motive_2 := fun l' => refsL (fun r => (r0 :: h.map (·.1)).contains r) l' = true → refsL (fun r => ((stC l h r0 cs b rows).hp r).isSome) l' = true)
        (by simp [refsV]) (by simp [refsV]) (by intros; simp [refsV]) (by intros; simp [refsV]) (fun q _ _ _ hq => by simp only [refsV] at hq ⊢; exact hlive q (List.contains_iff_mem.1 hq))
        (fun q _ hq => by simp only [refsV] at hq ⊢; exact hlive q (List.contains_iff_mem.1 hq)) (fun l hl hq => by simp only [refsV] at hq ⊢; exact hl hq) (fun l hl hq => by simp only [refsV] at hq ⊢; exact hl hq)
        (fun q hq => by simp only [refsV] at hq ⊢; exact hlive q (List.contains_iff_mem.1 hq)) (fun q hq => by simp only [refsV] at hq ⊢; exact hlive q (List.contains_iff_mem.1 hq)) (by intros; simp [refsV]) (fun f l k hl hq => by simp only [refsV] at hq ⊢; exact hl hq) (by intros; simp [refsV]) (by intros; simp [refsV])
        (by simp [refsL]) (fun a l ha hl hq => by simp only [refsL, Bool.and_eq_true] at hq ⊢; exact ⟨ha hq.1, hl hq.2⟩) [x]
      have := key (by simp only [refsL, Bool.and_eq_true, and_true]; exact h1)
      simp only [refsL, Bool.and_eq_true, and_true] at this
      exact this
  · rcases famH_some hc with h1 | ⟨_, j, _, _, h2⟩
    · simp only [look] at h1
      split at h1
      · cases h1
        exact hrefc _ hliveR
      · have := List.all_eq_true.1 hflat _ (look_mem h1)
        simp at this
    · cases h2
/-- Forgetting, to a state with a matrix whose rows are known under the names g. -/
theorem weak_mat {s : AS} {l : List (Nat × AV)} {h : List (Nat × (Bool × List AV))} {r0 b : Nat} {rows : List (List Int)} (f0 g : Nat → Nat)
    (hl : HasF s (nmF b f0 g) l) (hh : HasRF s (nmF b f0 g) h) (hflat : (h.all fun p => p.2.1) = true) (hk : (r0 :: h.map (·.1)).all (fun r => decide (r < b ∧ f0 r < b)) = true) (hpk : (r0 :: h.map (·.1)).all (fun r => decide ((r < pbase ∧ f0 r < pbase) ∨ (pbase ≤ r ∧ f0 r = r))) = true) (hpr : ∀ j, j < rows.length → (b + j < pbase ∧ g j < pbase) ∨ (pbase ≤ b + j ∧ g j = b + j)) (hr : refsT (fun r => (r0 :: h.map (·.1)).contains r) l = true)
    (h0 : ∃ fl cs, s.hp (f0 r0) = some (fl, cs) ∧ (fl = false ∧ cs = renL (nmF b f0 g) (rowsC b rows) ∨ rows = [] ∧ cs = []))
    (hrow : ∀ j, j < rows.length → s.hp (g j) = some (true, (rows.getD j []).map AV.i))
    (hndB : nodupB ((r0 :: h.map (·.1)).map f0) = true) (hg : ∀ j, j < rows.length → ∀ r ∈ (r0 :: h.map (·.1)), f0 r ≠ g j) (hgi : ∀ j j', j < rows.length → j' < rows.length → g j = g j' → j = j') : Weak s (stM l h r0 b rows) := by
  obtain ⟨fl, cs, h1, h2⟩ := h0
  refine weak_matC (cs := rowsC b rows) f0 g hl hh hflat hk hpk hpr hr ⟨_, h1, .inr ⟨rfl, ?_⟩⟩ (fun keep hkp => rowsC_refs _ _ _ hkp) hrow hndB hg hgi
  rcases h2 with ⟨rfl, rfl⟩ | ⟨h3, h4⟩
  · exact .inl rfl
  · exact .inr (.inl ⟨by show rowsC b rows = []; rw [h3]; rfl, h4⟩)
/-- Forgetting, the matrix being what it was. -/
theorem weak_keep {s : AS} {l : List (Nat × AV)} {h : List (Nat × (Bool × List AV))} {r0 b : Nat} {rows : List (List Int)} (f0 : Nat → Nat)
    (hl : HasF s (nmF b f0 fun j => b + j) l) (hh : HasRF s (nmF b f0 fun j => b + j) h) (hflat : (h.all fun p => p.2.1) = true) (hk : (r0 :: h.map (·.1)).all (fun r => decide (r < b ∧ f0 r < b)) = true)
    (hpk : (r0 :: h.map (·.1)).all (fun r => decide ((r < pbase ∧ f0 r < pbase) ∨ (pbase ≤ r ∧ f0 r = r))) = true) (hb : b + rows.length ≤ pbase ∨ pbase ≤ b) (hr : refsT (fun r => (r0 :: h.map (·.1)).contains r) l = true) (hndB : nodupB ((r0 :: h.map (·.1)).map f0) = true)
    {fl : Bool} {cs : List AV} (h0 : s.hp (f0 r0) = some (fl, cs)) (hcs : fl = false ∧ cs = rowsC b rows ∨ rows = [] ∧ cs = [])
    (hrow : ∀ j, j < rows.length → s.hp (b + j) = some (true, (rows.getD j []).map AV.i)) : Weak s (stM l h r0 b rows) := by
  refine weak_mat f0 (fun j => b + j) hl hh hflat hk hpk (fun j hj => by rcases hb with hb | hb; exact .inl ⟨by omega, by omega⟩; exact .inr ⟨by omega, rfl⟩) hr ⟨fl, cs, h0, ?_⟩ hrow hndB (fun j hj r hr => ?_) (fun j j' _ _ e => by omega)
  · rcases hcs with ⟨h1, h2⟩ | h1
    · exact .inl ⟨h1, by rw [h2, rowsC_ren _ b b]; intro j _; unfold nmF; rw [if_neg (by omega), Nat.add_sub_cancel_left]⟩
    · exact .inr h1
  · have := of_decide_eq_true (List.all_eq_true.1 hk r hr)
    omega
def gpush (b m q : Nat) : Nat → Nat := fun j => if j < m then b + j else q
theorem renL_append (f : Nat → Nat) (l m : List AV) : renL f (l ++ m) = renL f l ++ renL f m := by rw [renL_map, renL_map, renL_map, List.map_append]
/-- Forgetting, a region having become a row. -/
theorem weak_push {s : AS} {l : List (Nat × AV)} {h : List (Nat × (Bool × List AV))} {r0 b : Nat} {rows : List (List Int)} {row : List Int} (f0 : Nat → Nat) (q : Nat)
    (hl : HasF s (nmF b f0 (gpush b rows.length q)) l) (hh : HasRF s (nmF b f0 (gpush b rows.length q)) h) (hflat : (h.all fun p => p.2.1) = true) (hk : (r0 :: h.map (·.1)).all (fun r => decide (r < b ∧ f0 r < b)) = true)
    (hpk : (r0 :: h.map (·.1)).all (fun r => decide ((r < pbase ∧ f0 r < pbase) ∨ (pbase ≤ r ∧ f0 r = r))) = true) (hb : b + rows.length + 1 ≤ pbase) (hr : refsT (fun r => (r0 :: h.map (·.1)).contains r) l = true) (hndB : nodupB ((r0 :: h.map (·.1)).map f0) = true)
    (hqb : q < b) (hqn : ((r0 :: h.map (·.1)).map f0).contains q = false)
    {cs : List AV} (h0 : s.hp (f0 r0) = some (false, cs)) (hcs : cs = rowsC b rows ++ [.sl q 1 0 row.length]) (hq : s.hp q = some (true, row.map AV.i))
    (hrow : ∀ j, j < rows.length → s.hp (b + j) = some (true, (rows.getD j []).map AV.i)) : Weak s (stM l h r0 b (rows ++ [row])) := by
  have hlen : (rows ++ [row]).length = rows.length + 1 := by simp
  refine weak_mat f0 (gpush b rows.length q) hl hh hflat hk hpk (fun j hj => .inl ⟨by omega, by unfold gpush; split <;> omega⟩) hr ⟨false, cs, h0, .inl ⟨rfl, ?_⟩⟩ (fun j hj => ?_) hndB (fun j hj r hr => ?_) (fun j j' h1 h2 e => ?_)
  · rw [hcs, rowsC_snoc, renL_append, rowsC_ren _ b b]
    · simp only [renL, renV]
      unfold nmF gpush
      rw [if_neg (by omega), Nat.add_sub_cancel_left, if_neg (by omega)]
    · intro j hj
      unfold nmF gpush
      rw [if_neg (by omega), Nat.add_sub_cancel_left, if_pos hj]
  · unfold gpush
    by_cases hj' : j < rows.length
    · rw [if_pos hj', hrow j hj']
      simp [List.getElem?_append, hj']
    · have : j = rows.length := by omega
      subst this
      rw [if_neg hj', hq]
      simp
  · have := of_decide_eq_true (List.all_eq_true.1 hk r hr)
    unfold gpush
    split
    · omega
    · intro e
      have hm : q ∈ (r0 :: h.map (·.1)).map f0 := List.mem_map.2 ⟨r, hr, e⟩
      have := List.contains_iff_mem.2 hm
      rw [hqn] at this; cases this
  · unfold gpush at e
    split at e <;> split at e <;> omega
theorem hp_put (s : AS) (d : Option Nat) (x : AV) : (s.put d x).hp = s.hp := by cases d <;> rfl
theorem hp_mem_ne {s : AS} {q r : Nat} {c : Bool × List AV} (h : r ≠ q) : (s.mem q c).hp r = s.hp r := by simp [AS.mem, h]
theorem hp_kill_ne {s : AS} {q r : Nat} (h : r ≠ q) : (s.kill q).hp r = (s.hp r).map (killR q) := by simp [AS.kill, h]
end Go.Am
namespace Go.Am
variable {P : Program} {own : Bool} {N : Nat} {s : AS} {K : AS → Prop} {d : Option Nat}
def nbase : Nat := 8000000
/-- A matrix asx regions: the outer slice in r0, its rows in b, b + 1, .. -/
def matH (r0 b : Nat) (rows : List (List Int)) : Hp := famH (fun r => if r = r0 then some (false, rowsC b rows) else none) b rows
theorem matH_some {r0 b r : Nat} {rows : List (List Int)} {c : Bool × List AV} (h : matH r0 b rows r = some c) : (r = r0 ∧ c = (false, rowsC b rows)) ∨ ∃ j, j < rows.length ∧ r = b + j ∧ c = (true, (rows.getD j []).map AV.i) := by
  rcases famH_some h with h1 | ⟨_, h1⟩
  · split at h1
    · rename_i e; cases h1; exact .inl ⟨e, rfl⟩
    · cases h1
  · exact .inr h1
theorem matH_outer (r0 b : Nat) (rows : List (List Int)) : matH r0 b rows r0 = some (false, rowsC b rows) := by simp [matH, famH]
theorem matH_row {r0 b : Nat} {rows : List (List Int)} {j : Nat} (h : r0 < b) (hj : j < rows.length) : matH r0 b rows (b + j) = some (true, (rows.getD j []).map AV.i) :=
  famH_row (by have : ¬ b + j = r0 := by omega
               simp [this]) hj
theorem renL_ints (f : Nat → Nat) (l : List Int) : renL f (l.map AV.i) = l.map AV.i := by
  induction l with
  | nil => rfl
  | cons x l ih => simp only [List.map_cons, renL, renV, ih]
theorem ownL_ints (q : Bool) (l : List Int) : ownL q (l.map AV.i) = true := by
  induction l with
  | nil => rfl
  | cons x l ih => simp only [List.map_cons, ownL, ownV, ih, Bool.and_self]
theorem refsL_ints (keep : Nat → Bool) (l : List Int) : refsL keep (l.map AV.i) = true := by
  induction l with
  | nil => rfl
  | cons x l ih => simp only [List.map_cons, refsL, refsV, ih, Bool.and_self]
theorem matH_own {r0 b : Nat} {rows : List (List Int)} (h : r0 < b) (r : Nat) (c : Bool × List AV) (hc : matH r0 b rows r = some c) : ownL false c.2 = true ∧ refsL (fun r => (matH r0 b rows r).isSome) c.2 = true := by
  rcases matH_some hc with ⟨rfl, rfl⟩ | ⟨j, hj, rfl, rfl⟩
  · exact ⟨rowsC_own _ _ _, rowsC_refs _ _ _ fun j hj => by rw [matH_row h hj]; rfl⟩
  · exact ⟨ownL_ints _ _, refsL_ints _ _⟩
/-- The names of a matrix handed out. -/
def gnm (q b : Nat) : Nat → Nat := fun r => if r = nbase then q else b + (r - (nbase + 1))
theorem gnm_outer (q b : Nat) : gnm q b nbase = q := if_pos rfl
theorem gnm_row (q b j : Nat) : gnm q b (nbase + 1 + j) = b + j := by
  unfold gnm
  rw [if_neg (by omega), Nat.add_sub_cancel_left]
theorem gnm_inj {q b : Nat} (hq : q < b) {rows : List (List Int)} {r r' : Nat} (h1 : (matH nbase (nbase + 1) rows r).isSome = true) (h2 : (matH nbase (nbase + 1) rows r').isSome = true) (e : gnm q b r = gnm q b r') : r = r' := by
  obtain ⟨c, hc⟩ := Option.isSome_iff_exists.1 h1
  obtain ⟨c', hc'⟩ := Option.isSome_iff_exists.1 h2
  rcases matH_some hc with ⟨rfl, _⟩ | ⟨j, hj, rfl, _⟩
  · rcases matH_some hc' with ⟨rfl, _⟩ | ⟨j', hj', rfl, _⟩
    · rfl
    · rw [gnm_outer, gnm_row] at e; omega
  · rcases matH_some hc' with ⟨rfl, _⟩ | ⟨j', hj', rfl, _⟩
    · rw [gnm_outer, gnm_row] at e; omega
    · rw [gnm_row, gnm_row] at e; omega
theorem gnm_cells (q b : Nat) (rows : List (List Int)) : renL (gnm q b) (rowsC (nbase + 1) rows) = rowsC b rows := rowsC_ren _ _ _ _ fun j _ => gnm_row q b j
theorem gnm_hp {q b : Nat} {rows : List (List Int)} {hp : Hp} (h0 : hp q = some (false, rowsC b rows)) (hr : ∀ j, j < rows.length → hp (b + j) = some (true, (rows.getD j []).map AV.i)) (r : Nat) (c : Bool × List AV) (hc : matH nbase (nbase + 1) rows r = some c) :
    hp (gnm q b r) = some (renR (gnm q b) c) := by
  rcases matH_some hc with ⟨rfl, rfl⟩ | ⟨j, hj, rfl, rfl⟩
  · rw [gnm_outer, h0]
    simp only [renR]
    rw [gnm_cells]
  · rw [gnm_row, hr j hj]
    simp only [renR]
    rw [renL_ints]
abbrev matO (rows : List (List Int)) : Hp := matH nbase (nbase + 1) rows
theorem static_mat1 (rows : List (List Int)) : Static (fun _ => none) (.sl nbase 1 0 rows.length) (matO rows) :=
  ⟨fun r h => by simp at h, matH_own (by omega), by simp [ownV], by simp [refsV, matO, matH_outer]⟩
theorem static_mat2 (rows : List (List Int)) (x : Value) : Static (fun _ => none) (.tup [.sl nbase 1 0 rows.length, .v x]) (matO rows) :=
  ⟨fun r h => by simp at h, matH_own (by omega), by simp [ownV, ownL], by simp [refsV, refsL, matO, matH_outer]⟩
/-- A matrix is handed out. -/
theorem ret_mat {r0 b : Nat} {rows : List (List Int)} {ts : List Nat} {res : AV} (hr0 : r0 < b) (hpb : r0 < pbase) (hb : b + rows.length ≤ pbase)
    (h1 : resAV s ts = renV (gnm r0 b) res) (h0 : s.hp r0 = some (false, rowsC b rows)) (hrow : ∀ j, j < rows.length → s.hp (b + j) = some (true, (rows.getD j []).map AV.i)) : DoneH ts res (fun _ => none) (matO rows) .ret s := by
  refine ret_doneh (gnm r0 b) h1 (fun r c hc => ⟨_, gnm_hp h0 hrow r c hc, .inl rfl⟩) (fun r hr => by simp at hr) (fun r hr _ => ?_) fun r r' h2 h3 e => gnm_inj hr0 h2 h3 e
  obtain ⟨c, hc⟩ := Option.isSome_iff_exists.1 hr
  rcases matH_some hc with ⟨rfl, _⟩ | ⟨j, hj, rfl, _⟩
  · rw [gnm_outer]; exact hpb
  · rw [gnm_row]; omega
/-- An empty one. -/
theorem ret_mat0 {r0 : Nat} {fl : Bool} {ts : List Nat} {res : AV} (hpb : r0 < pbase) (h1 : resAV s ts = renV (gnm r0 (r0 + 1)) res) (h0 : s.hp r0 = some (fl, [])) : DoneH ts res (fun _ => none) (matO []) .ret s := by
  refine ret_doneh (gnm r0 (r0 + 1)) h1 (fun r c hc => ?_) (fun r hr => by simp at hr) (fun r hr _ => ?_) fun r r' h2 h3 e => gnm_inj (by omega) h2 h3 e
  · rcases matH_some hc with ⟨rfl, rfl⟩ | ⟨j, hj, _⟩
    · exact ⟨_, by rw [gnm_outer]; exact h0, .inr ⟨rfl, rfl⟩⟩
    · simp at hj
  · obtain ⟨c, hc⟩ := Option.isSome_iff_exists.1 hr
    rcases matH_some hc with ⟨rfl, _⟩ | ⟨j, hj, _⟩
    · rw [gnm_outer]; exact hpb
    · simp at hj
/-- A matrix comes in: its outer slice is region q, its rows are b, b + 1, .. -/
def AS.addM (s : AS) (q b : Nat) (rows : List (List Int)) : AS := ⟨s.tm, famH (fun r => if r = q then some (false, rowsC b rows) else s.hp r) b rows⟩
theorem addM_row {s : AS} {q b : Nat} {rows : List (List Int)} {j : Nat} (hq : q < b) (hn : s.hp (b + j) = none) (hj : j < rows.length) : (s.addM q b rows).hp (b + j) = some (true, (rows.getD j []).map AV.i) :=
  famH_row (h := fun r => if r = q then some (false, rowsC b rows) else s.hp r) (by
    show (if b + j = q then some (false, rowsC b rows) else s.hp (b + j)) = none
    rw [if_neg (by omega)]; exact hn) hj
/-- The rows are written. -/
def AS.setM (s : AS) (b : Nat) (rows : List (List Int)) : AS := ⟨s.tm, fun r => if b ≤ r ∧ r < b + rows.length then some (true, (rows.getD (r - b) []).map AV.i) else s.hp r⟩
theorem setM_row {s : AS} {b : Nat} {rows : List (List Int)} {j : Nat} (hj : j < rows.length) : (s.setM b rows).hp (b + j) = some (true, (rows.getD j []).map AV.i) := by
  unfold AS.setM
  simp only
  rw [if_pos ⟨by omega, by omega⟩, Nat.add_sub_cancel_left]
/-- A call that hands out a matrix: its outer slice is taken asx region q, its rows asx b, b + 1, .. -/
theorem m_callM {f : FuncId} {args : List Opd} {asx : List AV} {rows : List (List Int)} {res : AV} (q b : Nat) (hs : SpH P f asx (fun _ => none) res (matO rows)) (hl : Lends s.hp (args.map s.ev) asx) (hor : ownV false res = true) (hqb : q < b) (hqp : q < pbase) (hb : b + rows.length ≤ pbase)
    (hq : s.hp q = none) (hrow : ∀ j, j < rows.length → s.hp (b + j) = none)
    (k : K (AS.put (s.addM q b rows) d (renV (gnm q b) res))) : aop1 P true ⟨d, .call f args, none⟩ s K := by
  refine m_callh (gnm q b) hs (lendsH_none hl) ⟨fun r c h => by simp at h, fun r r' h1 h2 e => gnm_inj hqb h1 h2 e, fun r h => by simp at h, fun r hr _ => ?_, gnm_hp ?_ fun j hj => ?_, fun p hp => ?_, fun r c h => by simp at h, fun r c hc => (matH_own (by omega) r c hc).1, hor⟩ k
  · obtain ⟨c, hc⟩ := Option.isSome_iff_exists.1 hr
    rcases matH_some hc with ⟨rfl, _⟩ | ⟨j, hj, rfl, _⟩
    · rw [gnm_outer]; exact ⟨hq, hqp⟩
    · rw [gnm_row]; exact ⟨hrow j hj, by omega⟩
  · simp [famH]
  · exact famH_row (by have : ¬ b + j = q := by omega
                       simp only [this, if_false]; exact hrow j hj) hj
  · have h1 : p ≠ q := fun e => hp nbase (by rw [matO, matH_outer]; rfl) (by rw [gnm_outer]; exact e.symm)
    unfold famH
    simp only [h1, if_false]
    cases hh : s.hp p with
    | some c => rfl
    | none =>
      simp only
      rw [if_neg]
      rintro ⟨h2, h3⟩
      refine hp (nbase + 1 + (p - b)) ?_ ?_
      · rw [matO, matH_row (by omega) (by omega)]; rfl
      · rw [gnm_row]; omega
mutual
theorem renV_id : ∀ x : AV, renV id x = x
  | .any => rfl
  | .v _ => rfl
  | .ro _ _ _ _ => rfl
  | .rp _ => rfl
  | .sl _ _ _ _ => rfl
  | .pt _ _ => rfl
  | .mp _ => rfl
  | .itr _ => rfl
  | .ob _ => rfl
  | .fn _ l _ => by simp only [renV, renL_id l]
  | .rmp _ _ _ => rfl
  | .fu _ _ _ => rfl
  | .agg l => by simp only [renV, renL_id l]
  | .tup l => by simp only [renV, renL_id l]
theorem renL_id : ∀ l : List AV, renL id l = l
  | [] => rfl
  | a :: l => by simp only [renL, renV_id a, renL_id l]
end
abbrev matL (rows : List (List Int)) : Hp := matH pbase (pbase + 1) rows
theorem static_matL (rows0 rows : List (List Int)) (x : Value) : Static (matL rows0) (.v x) (matL rows) := by
  refine ⟨fun r h => ?_, matH_own (by omega), by simp [ownV], by simp [refsV]⟩
  obtain ⟨c, hc⟩ := Option.isSome_iff_exists.1 h
  rcases matH_some hc with ⟨rfl, _⟩ | ⟨j, _, rfl, _⟩ <;> omega
/-- A matrix that was lent goes back. -/
theorem ret_matL {rows0 rows : List (List Int)} {ts : List Nat} {x : Value} (hn : rows.length = rows0.length) (h1 : resAV s ts = .v x) (h0 : s.hp pbase = some (false, rowsC (pbase + 1) rows)) (hrow : ∀ j, j < rows.length → s.hp (pbase + 1 + j) = some (true, (rows.getD j []).map AV.i)) :
    DoneH ts (.v x) (matL rows0) (matL rows) .ret s := by
  have hlv : ∀ r, (matL rows0 r).isSome = true → (matL rows r).isSome = true := by
    intro r hr
    obtain ⟨c, hc⟩ := Option.isSome_iff_exists.1 hr
    rcases matH_some hc with ⟨rfl, _⟩ | ⟨j, hj, rfl, _⟩
    · rw [matL, matH_outer]; rfl
    · rw [matL, matH_row (by omega) (by omega)]; rfl
  have hlv2 : ∀ r, (matL rows r).isSome = true → ¬ matL rows0 r = none := by
    intro r hr
    obtain ⟨c, hc⟩ := Option.isSome_iff_exists.1 hr
    rcases matH_some hc with ⟨rfl, _⟩ | ⟨j, hj, rfl, _⟩
    · rw [matL, matH_outer]; simp
    · rw [matL, matH_row (by omega) (by omega)]; simp
  refine ret_doneh id h1 (fun r c hc => ⟨c, ?_, .inl ?_⟩) (fun r hr => ⟨rfl, hlv r hr⟩) (fun r hr h2 => absurd h2 (hlv2 r hr)) fun r r' _ _ e => e
  · rcases matH_some hc with ⟨rfl, rfl⟩ | ⟨j, hj, rfl, rfl⟩
    · exact h0
    · exact hrow j hj
  · simp only [renR, renL_id]
/-- The names of a matrix that is lent. -/
def lnm (q b : Nat) : Nat → Nat := fun r => if r = pbase then q else b + (r - (pbase + 1))
theorem lnm_outer (q b : Nat) : lnm q b pbase = q := if_pos rfl
theorem lnm_row (q b j : Nat) : lnm q b (pbase + 1 + j) = b + j := by
  unfold lnm
  rw [if_neg (by omega), Nat.add_sub_cancel_left]
/-- A call that is lent a matrix and writes its rows. -/
theorem m_callL {f : FuncId} {args : List Opd} {asx : List AV} {rows rows' : List (List Int)} {x : Value} (q b : Nat) (hs : SpH P f (.sl pbase 1 0 rows.length :: asx) (matL rows) (.v x) (matL rows')) (ha : args.map s.ev = .sl q 1 0 rows.length :: asx) (hpl : asx.all plainV = true)
    (hqb : q < b) (hlen : rows'.length = rows.length) (hll : ∀ j, j < rows.length → (rows'.getD j []).length = (rows.getD j []).length) (h0 : s.hp q = some (false, rowsC b rows)) (hrow : ∀ j, j < rows.length → s.hp (b + j) = some (true, (rows.getD j []).map AV.i))
    (k : K (AS.put (s.setM b rows') d (.v x))) : aop1 P true ⟨d, .call f args, none⟩ s K := by
  unfold AS.setM at k
  rw [hlen] at k
  have hcells : renL (lnm q b) (rowsC (pbase + 1) rows) = rowsC b rows := rowsC_ren _ _ _ _ fun j _ => lnm_row q b j
  have hsame : rowsC (pbase + 1) rows' = rowsC (pbase + 1) rows := rowsC_same _ _ _ hlen fun j hj => hll j (by omega)
  have hhas : ∀ r c, matL rows r = some c → s.hp (lnm q b r) = some (renR (lnm q b) c) := by
    intro r c hc
    rcases matH_some hc with ⟨rfl, rfl⟩ | ⟨j, hj, rfl, rfl⟩
    · rw [lnm_outer, h0]; simp only [renR]; rw [hcells]
    · rw [lnm_row, hrow j hj]; simp only [renR]; rw [renL_ints]
  have hpl2 : renL (lnm q b) asx = asx ∧ ownL true asx = true ∧ ∀ keep, refsL keep asx = true := by
    clear hs ha
    induction asx with
    | nil => exact ⟨rfl, rfl, fun _ => rfl⟩
    | cons a asx ih =>
      simp only [List.all_cons, Bool.and_eq_true] at hpl
      obtain ⟨h1, h2, h3⟩ := ih hpl.2
      cases a <;> simp [plainV] at hpl
      refine ⟨by simp only [renL, renV, h1], by simp only [ownL, ownV, h2, Bool.and_self], fun keep => by simp only [refsL, refsV, h3, Bool.and_self]⟩
  have hinj : ∀ r r', (matL rows' r).isSome = true → (matL rows' r').isSome = true → lnm q b r = lnm q b r' → r = r' := by
    intro r r' h1 h2 e
    obtain ⟨c, hc⟩ := Option.isSome_iff_exists.1 h1
    obtain ⟨c', hc'⟩ := Option.isSome_iff_exists.1 h2
    rcases matH_some hc with ⟨rfl, _⟩ | ⟨j, hj, rfl, _⟩ <;> rcases matH_some hc' with ⟨rfl, _⟩ | ⟨j', hj', rfl, _⟩
    · rfl
    · rw [lnm_outer, lnm_row] at e; omega
    · rw [lnm_outer, lnm_row] at e; omega
    · rw [lnm_row, lnm_row] at e; omega
  have hstay : ∀ r, (matL rows r).isSome = true ↔ (matL rows' r).isSome = true := by
    intro r
    constructor
    · intro hr
      obtain ⟨c, hc⟩ := Option.isSome_iff_exists.1 hr
      rcases matH_some hc with ⟨rfl, _⟩ | ⟨j, hj, rfl, _⟩
      · rw [matL, matH_outer]; rfl
      · rw [matL, matH_row (by omega) (by omega)]; rfl
    · intro hr
      obtain ⟨c, hc⟩ := Option.isSome_iff_exists.1 hr
      rcases matH_some hc with ⟨rfl, _⟩ | ⟨j, hj, rfl, _⟩
      · rw [matL, matH_outer]; rfl
      · rw [matL, matH_row (by omega) (by omega)]; rfl
  refine m_callh (lnm q b) hs ?_ ⟨hhas, hinj, fun r hr => (hstay r).1 hr, fun r hr h2 => ?_, fun r c hc => ?_, fun p hp => ?_, fun r c hc => ?_, fun r c hc => (matH_own (by omega) r c hc).1, by simp [ownV]⟩ k
  · rw [ha]
    have e : (.sl q 1 0 rows.length :: asx : List AV) = renL (lnm q b) (.sl pbase 1 0 rows.length :: asx) := by simp only [renL, renV, lnm_outer, hpl2.1]
    rw [e]
    refine lendsH_ren (fun r c hc => by rw [hhas r c hc]; rfl) (by simp only [ownL, ownV, hpl2.2.1, Bool.and_self]) ?_
    simp only [refsL, refsV, hpl2.2.2, Bool.and_true]
    rw [matL, matH_outer]; rfl
  · have := (hstay r).2 hr
    rw [h2] at this; simp at this
  · rcases matH_some hc with ⟨rfl, rfl⟩ | ⟨j, hj, rfl, rfl⟩
    · rw [lnm_outer, if_neg (by omega), h0, hsame]
      simp only [renR]; rw [hcells]
    · rw [lnm_row, if_pos ⟨by omega, by omega⟩, Nat.add_sub_cancel_left]
      simp only [renR]; rw [renL_ints]
  · rw [if_neg]
    rintro ⟨h2, h3⟩
    refine hp (pbase + 1 + (p - b)) ?_ ?_
    · rw [matL, matH_row (by omega) (by omega)]; rfl
    · rw [lnm_row]; omega
  · obtain ⟨h1, h2⟩ := matH_own (by omega) r c hc
    refine ⟨?_, h2⟩
    rcases matH_some hc with ⟨rfl, rfl⟩ | ⟨j, hj, rfl, rfl⟩
    · exact rowsC_own _ _ _
    · exact ownL_ints _ _
/-- A matrix that is read; one of new memory that is read. -/
abbrev roM (rows : List (List Int)) : AV := .ro false 1 (rows.map ints) rows.length
abbrev roF (rows : List (List Int)) : AV := .ro true 1 (rows.map newInts) rows.length
theorem roM_at {rows : List (List Int)} {k : Nat} (h : k < rows.length) : ((rows.map ints).drop k)[0]? = some (ints (rows.getD k [])) := by simp [h]
theorem lend_mat {hp : Hp} {r b : Nat} {rows : List (List Int)} (hr : hp r = some (false, rowsC b rows)) (hrow : ∀ j, j < rows.length → hp (b + j) = some (true, (rows.getD j []).map AV.i)) : Lend hp (.sl r 1 0 rows.length) (roM rows) := by
  intro w0 mu N tm w phi ro v hS h
  simp only [SimV] at h ⊢
  rcases h.2.2 with ⟨h1, _, h3, h4⟩ | ⟨b', o, cap, cur, e, h1, h2, h3, h4, h5, h6, h7⟩
  · have : rows = [] := List.eq_nil_of_length_eq_zero h3
    subst this
    exact .inl ⟨rfl, rfl, none, 0, by simpa using h4, by simp⟩
  · have ho : o = 0 := by
      rcases h4 with h4 | h4
      · exact h4
      · omega
    subst ho
    rcases hS.liv r _ hr with ⟨h8, _⟩ | ⟨b2, cur', e', h8, h9, h10, h11, h12⟩ | ⟨b2, o2, h0, _⟩
    · have : phi r = some b' := h1
      rw [h8] at this; cases this
    case inr.inr => cases h0
    · have h1' : phi r = some b' := h1
      rw [h8] at h1'
      cases h1'
      have h3' : w.heap[b']? = some (.cells cur e (0, 0)) := h3
      rw [h9] at h3'
      cases h3'
      refine .inr ⟨b', 0, cap, cur, e, (0, 0), h2, h9, lt_of_get h9, by simp, h5, by simp, ?_⟩
      simp only [SimR, Bool.false_eq_true, if_false] at h12
      rw [List.drop_zero]
      refine SimL.of_get fun j a hj => ?_
      rw [List.getElem?_map, Option.map_eq_some_iff] at hj
      obtain ⟨l, hl, rfl⟩ := hj
      have hjl := (List.getElem?_eq_some_iff.1 hl).1
      have e1 : rows.getD j [] = l := by rw [List.getD_eq_getElem?_getD, hl]; rfl
      obtain ⟨y, k1, k2⟩ := h12.get (rowsC_get b rows j hjl)
      refine ⟨y, k1, ?_⟩
      rw [e1] at k2
      have hrj := hrow j hjl
      rw [e1] at hrj
      have := lend_sli (hp := hp) (r := b + j) (L := l) hrj rfl w0 mu N tm w phi ro y hS k2
      rw [SimV] at this ⊢
      exact this
theorem lend_roM {hp : Hp} {fr fr2 : Bool} {n : Nat} {rows : List (List Int)} (hn : n = rows.length) : Lend hp (.ro fr 1 (rows.map fun l => .ro fr2 1 (l.map AV.i) l.length) n) (roM rows) := by
  subst hn
  intro w0 mu N tm w phi ro v hS h
  simp only [SimV] at h ⊢
  rcases h with ⟨h1, h2, a, c, h3, _⟩ | ⟨b, o, cap, cur, e, fz, h1, h2, h3, h4, h5, _, h6⟩
  · have : rows = [] := List.eq_nil_of_length_eq_zero h1
    subst this
    exact .inl ⟨rfl, rfl, a, c, h3, by simp⟩
  · refine .inr ⟨b, o, cap, cur, e, fz, h1, h2, hS.rob b h3, by simp, h5, by simp, ?_⟩
    refine SimL.of_get fun j x hj => ?_
    rw [List.getElem?_map, Option.map_eq_some_iff] at hj
    obtain ⟨l, hl, rfl⟩ := hj
    obtain ⟨y, k1, k2⟩ := h6.get (i := j) (a := .ro fr2 1 (l.map AV.i) l.length) (by rw [List.getElem?_map, hl]; rfl)
    refine ⟨y, k1, ?_⟩
    simp only [SimV] at k2 ⊢
    rcases k2 with ⟨g1, g2, a', c', g3, _⟩ | ⟨b', o', cap', cur', e', fz', g1, g2, g3, g4, g5, _, g6⟩
    · exact .inl ⟨g1, g2, a', c', g3, by simp⟩
    · exact .inr ⟨b', o', cap', cur', e', fz', g1, g2, hS.rob b' g3, g4, g5, by simp, simL_allv (allv_ints l) g6⟩
theorem ob_ints {G : Prop} {l : List Int} {o : Obj} (h : ((true, l.map AV.i) : Bool × List AV) = (true, [.ob o])) : G := by
  simp only [Prod.mk.injEq, true_and] at h
  cases l with
  | nil => simp at h
  | cons x l => simp at h
/-- A matrix handed out, read. -/
theorem simv_roF {w w' : World} {phi : Nat → Option Nat} {rows : List (List Int)} {v : Value} (h1 : ∀ r b, (matO rows r).isSome = true → phi r = some b → w.heap.size ≤ b) (h2 : Regs (ctxX w w' phi (matO rows)) (matO rows)) (h3 : SimV (.sl nbase 1 0 rows.length) (ctxX w w' phi (matO rows)) v) : SimV (roF rows) (fresh w w') v := by
  simp only [SimV] at h3 ⊢
  rcases h3.2.2 with ⟨k1, _, k3, k4⟩ | ⟨b', o, cap, cur, e, k1, k2, k3, k4, k5, k6, k7⟩
  · have : rows = [] := List.eq_nil_of_length_eq_zero k3
    subst this
    exact .inl ⟨rfl, rfl, none, 0, by simpa using k4, by simp⟩
  · have ho : o = 0 := by
      rcases k4 with k4 | k4
      · exact k4
      · omega
    subst ho
    have hb := h1 nbase b' (by rw [matO, matH_outer]; rfl) k1
    have k3' : w'.heap[b']? = some (.cells cur e (0, 0)) := k3
    refine .inr ⟨b', 0, cap, cur, e, (0, 0), k2, k3', ⟨hb, lt_of_get k3'⟩, by simp, k5, fun _ => ⟨hb, rfl, rfl, k6, by omega⟩, ?_⟩
    rcases h2 nbase _ (matH_outer _ _ _) with ⟨g1, _⟩ | ⟨b2, cur2, e2, g1, g2, g3⟩ | ⟨b2, o2, h0, _⟩
    case inr.inr => cases h0
    · have : phi nbase = some b' := k1
      have g1' : phi nbase = none := g1
      rw [g1'] at this; cases this
    · have g1' : phi nbase = some b2 := g1
      have k1' : phi nbase = some b' := k1
      rw [g1'] at k1'
      cases k1'
      have g2' : w'.heap[b']? = some (.cells cur2 e2 (0, 0)) := g2
      rw [k3'] at g2'
      cases g2'
      simp only [SimR, Bool.false_eq_true, if_false] at g3
      rw [List.drop_zero]
      refine SimL.of_get fun j x hj => ?_
      rw [List.getElem?_map, Option.map_eq_some_iff] at hj
      obtain ⟨l, hl, rfl⟩ := hj
      have hjl := (List.getElem?_eq_some_iff.1 hl).1
      have e1 : rows.getD j [] = l := by rw [List.getD_eq_getElem?_getD, hl]; rfl
      obtain ⟨y, m1, m2⟩ := g3.get (rowsC_get (nbase + 1) rows j hjl)
      refine ⟨y, m1, ?_⟩
      rw [e1] at m2
      simp only [SimV] at m2 ⊢
      rcases m2.2.2 with ⟨n1, _, n3, n4⟩ | ⟨b3, o3, cap3, cur3, e3, n1, n2, n3, n4, n5, n6, n7⟩
      · have : l = [] := List.eq_nil_of_length_eq_zero n3
        subst this
        exact .inl ⟨rfl, rfl, none, 0, by simpa using n4, by simp⟩
      · have ho3 : o3 = 0 := by
          rcases n4 with n4 | n4
          · exact n4
          · omega
        subst ho3
        have hrow := matH_row (r0 := nbase) (b := nbase + 1) (rows := rows) (by omega) hjl
        have hb3 := h1 (nbase + 1 + j) b3 (by rw [matO, hrow]; rfl) n1
        have n3' : w'.heap[b3]? = some (.cells cur3 e3 (0, 0)) := n3
        refine .inr ⟨b3, 0, cap3, cur3, e3, (0, 0), n2, n3', ⟨hb3, lt_of_get n3'⟩, by simp, n5, fun _ => ⟨hb3, rfl, rfl, n6, by omega⟩, ?_⟩
        rcases h2 _ _ hrow with ⟨g4, _⟩ | ⟨b4, cur4, e4, g4, g5, g6⟩ | ⟨b4, o4, h0, _⟩
        case inr.inr => exact ob_ints h0
        · have n1' : phi (nbase + 1 + j) = some b3 := n1
          have g4' : phi (nbase + 1 + j) = none := g4
          rw [g4'] at n1'; cases n1'
        · have g4' : phi (nbase + 1 + j) = some b4 := g4
          have n1' : phi (nbase + 1 + j) = some b3 := n1
          rw [g4'] at n1'
          cases n1'
          have g5' : w'.heap[b3]? = some (.cells cur4 e4 (0, 0)) := g5
          rw [n3'] at g5'
          cases g5'
          simp only [SimR, if_true] at g6
          rw [e1] at g6
          rw [List.drop_zero]
          exact simL_allv (allv_ints l) g6
theorem sp_mat1 {f : FuncId} {asx : List AV} {rows : List (List Int)} (h : SpH P f asx (fun _ => none) (.sl nbase 1 0 rows.length) (matO rows)) : Sp P f asx (roF rows) :=
  spH_sp h fun _ _ _ _ h1 h2 h3 => simv_roF h1 h2 h3
theorem sp_mat2 {f : FuncId} {asx : List AV} {rows : List (List Int)} {x : Value} (h : SpH P f asx (fun _ => none) (.tup [.sl nbase 1 0 rows.length, .v x]) (matO rows)) : Sp P f asx (.tup [roF rows, .v x]) := by
  refine spH_sp h fun w w' phi v h1 h2 h3 => ?_
  rw [SimV] at h3 ⊢
  obtain ⟨a, k1, k2, k3⟩ := h3
  refine ⟨a, k1, k2, ?_⟩
  match hl : a.toList with
  | [] => rw [hl] at k3; simp [SimL] at k3
  | [_] => rw [hl] at k3; simp [SimL] at k3
  | u :: v :: rest =>
    rw [hl] at k3
    rw [SimL, SimL] at k3 ⊢
    exact ⟨simv_roF h1 h2 k3.1, by simpa [SimV] using k3.2.1, by simp [SimL]⟩
end Go.Am
namespace Go.Am
variable {P : Program} {own : Bool} {N : Nat} {s : AS} {K : AS → Prop} {d : Option Nat}
/-- A region told otherwise, its block being what it was. -/
theorem weak_recell {s : AS} {r : Nat} {c c' : Bool × List AV} (hr : s.hp r = some c) (hne : c.2 ≠ []) (hno : ∀ o, c ≠ (true, [.ob o]))
    (h : ∀ (w0 : World) (mu : Nat → Option Nat) (N : Nat) (tm : Array Value) (w : World) (phi : Nat → Option Nat) (ro : Nat → Prop) (cur : Array Value), Sim w0 mu N s tm w phi ro → SimR c (ctx w0 w ro phi s) cur.toList → SimR c' (ctx w0 w ro phi s) cur.toList) : Weak s (s.mem r c') := by
  intro w0 mu N a w hS
  obtain ⟨hf, phi, ro, hS⟩ := hS
  rcases hS.liv r c hr with ⟨_, h2, _⟩ | ⟨b, cur, e, h1, h2, h3, h4, h5⟩ | ⟨b, o, h0, _⟩
  · exact absurd h2 hne
  case inr.inr => exact absurd h0 (hno o)
  · exact ⟨hf, phi, ro, hS.write hr h1 h2 h2 rfl (fun _ _ _ => rfl) rfl rfl rfl (Nat.le_refl _) (h w0 mu N a.tmps w phi ro cur hS h5)⟩
/-- Plain cells may be told asx cells that may lead to regions. -/
theorem weak_deep {r : Nat} {cs : List AV} (hr : s.hp r = some (true, cs)) (hne : cs ≠ []) (hpl : cs.all plainV = true) : Weak s (s.mem r (false, cs)) := by
  refine weak_recell hr hne (fun o h => by cases h; simp [plainV] at hpl) fun w0 mu N tm w phi ro cur _ h => ?_
  simp only [SimR, if_true, Bool.false_eq_true, if_false] at h ⊢
  exact simL_allv hpl h
/-- A nil slice in a cell is a slice of an empty region. -/
theorem weak_nilcell (r q z j : Nat) {cs : List AV} (hr : s.hp r = some (true, cs)) (hq : s.hp q = none) (hqp : q < pbase) (hc : cs[j]? = some (.v (.slice none 0 0))) (hpl : cs.all plainV = true) :
    Weak s ((s.mem q (true, [])).mem r (false, cs.set j (.sl q z 0 0))) := by
  have hrq : r ≠ q := fun e => by rw [e] at hr; rw [hr] at hq; cases hq
  have hr' : (s.mem q (true, [])).hp r = some (true, cs) := by rw [hp_mem_ne hrq]; exact hr
  intro w0 mu N a w hS
  obtain ⟨hf, phi, ro, hS⟩ := hS
  have hS1 := hS.born hq hqp (true, []) none rfl
  rcases hS1.liv r _ hr' with ⟨_, h2, _⟩ | ⟨b, cur, e, h1, h2, h3, h4, h5⟩ | ⟨b, o, h0, _⟩
  case inr.inr => cases h0; simp [plainV] at hpl
  · simp only at h2; rw [h2] at hc; simp at hc
  · refine ⟨hf, _, ro, hS1.write hr' h1 h2 h2 rfl (fun _ _ _ => rfl) rfl rfl rfl (Nat.le_refl _) ?_⟩
    simp only [SimR, if_true, Bool.false_eq_true, if_false] at h5 ⊢
    have h6 := simL_allv (D := ctx w0 w ro (fun p => if p = q then none else phi p) (s.mem q (true, []))) hpl h5
    obtain ⟨y, k1, k2⟩ := h6.get hc
    simp only [SimV] at k2
    subst k2
    have hlt : j < cs.length := (List.getElem?_eq_some_iff.1 hc).1
    have h7 := h6.set (i := j) (a := .sl q z 0 0) (y := .slice none 0 0) (by simp only [SimV]; exact ⟨rfl, by simp [ctx, AS.mem], .inl (by simp [ctx])⟩) hlt
    have e2 : cur.toList.set j (.slice none 0 0) = cur.toList := by
      apply List.ext_getElem?
      intro i
      rw [List.getElem?_set]
      by_cases e : j = i
      · subst e
        have := (List.getElem?_eq_some_iff.1 k1).1
        simp only [if_true, this, k1]
      · simp [e]
    rw [e2] at h7
    exact h7
section
variable {x y : Opd}
theorem m_bslz {r z : Nat} {zero : List Value} {l : List AV} (hx : s.ev x = .agg l) (hl : l.length = z) (hz : zero.length = z) (hok : l.all (cellOk true) = true) (k : K (((s.kill r).mem r (true, l)).put (some r) (.sl r z 0 1))) : aop1 P own ⟨some r, .bsl z 1 zero [(0, x)], none⟩ s K := by
  refine m_bsl (fl := true) (out := l) (.inr ⟨l, hx, hl, by simp; omega, hok, ?_⟩) k
  show l = _
  simp
  omega
theorem m_appz {q r q' z n bs : Nat} {cs l : List AV} (hx : s.ev x = .sl r z 0 n) (hp : r < pbase) (hr : s.hp r = some (true, cs)) (hl : cs.length = n * z) (hy : s.ev y = .sl q' z 0 1) (hq : s.hp q' = some (true, l)) (hll : l.length = z) (hok : l.all (cellOk true) = true)
    (h1 : n ≤ 4194304) (h2 : bs ≤ 64) (k : K ((((s.kill r).kill q).mem q (true, cs ++ l)).put (some q) (.sl q z 0 (n + 1)))) : aop1 P own ⟨some q, .app z bs x y, none⟩ s K := by
  refine m_app (fl := true) (ys := l) (m := 1) hx hp hr hl ?_ hok (by show n + 1 ≤ 9223372036854775807; omega) ?_ ?_
  · rw [hy]
    have h := Elems.sl (hp := s.hp) (z := z) q' 0 1 true l hq (by omega)
    rw [List.drop_zero, Nat.one_mul, List.take_of_length_le (by omega)] at h
    exact h
  · have := Nat.mul_le_mul (show n + 1 ≤ 4194305 by omega) h2
    omega
  · exact k
end
theorem lend_aggs {hp : Hp} {xs asx : List AV} (h : Lends hp xs asx) : Lend hp (.agg xs) (.agg asx) := by
  intro w0 mu N tm w phi ro v hS hv
  simp only [SimV] at hv ⊢
  obtain ⟨a, h1, h2, h3⟩ := hv
  obtain ⟨h4, h5⟩ := h w0 mu N tm w phi ro a.toList hS h3 (by simpa using h2)
  exact ⟨a, h1, by simpa using h5, h4⟩
theorem outs_agg3 {a b c a' b' c' : AV} (h1 : Outs s a a') (h2 : Outs s b b') (h3 : Outs s c c') : Outs s (.agg [a, b, c]) (.agg [a', b', c']) := by
  intro w0 N tm w phi ro y hS hy
  simp only [SimV] at hy ⊢
  obtain ⟨ar, hy, hsz, hs⟩ := hy
  refine ⟨ar, hy, hsz, ?_⟩
  match hl : ar.toList with
  | [] => rw [hl] at hs; simp [SimL] at hs
  | [_] => rw [hl] at hs; simp [SimL] at hs
  | [_, _] => rw [hl] at hs; simp [SimL] at hs
  | u :: v :: t :: rest =>
    rw [hl] at hs
    simp only [SimL, and_true] at hs ⊢
    exact ⟨h1 w0 N tm w phi ro u hS hs.1, h2 w0 N tm w phi ro v hS hs.2.1, h3 w0 N tm w phi ro t hS hs.2.2⟩
/-- What a region may hold that is handed out: plain cells, and slices of new memory. -/
def newV : AV → Bool
  | .v _ => true
  | .ro true _ cs _ => cs.all plainV
  | _ => false
theorem simL_new {w0 w : World} {mu : Nat → Option Nat} {N : Nat} {tm : Array Value} {phi : Nat → Option Nat} {ro : Nat → Prop} (hS : Sim w0 mu N s tm w phi ro) : ∀ {cs : List AV} {ys : List Value}, cs.all newV = true → SimL cs (ctx w0 w ro phi s).out ys → SimL cs (fresh w0 w).out ys
  | [], _, _, _ => by simp [SimL]
  | _ :: _, [], _, h => by simp [SimL] at h
  | c :: cs, y :: ys, h, hs => by
    simp only [List.all_cons, Bool.and_eq_true, SimL] at h hs ⊢
    refine ⟨?_, simL_new hS h.2 hs.2⟩
    cases c with
    | v x => simpa [SimV] using hs.1
    | ro fr z cs n =>
      cases fr with
      | false => simp [newV] at h
      | true =>
        have h1 := hs.1
        simp only [SimV] at h1 ⊢
        rcases h1 with h1 | ⟨b, o, cap, cur, e, fz, k1, k2, k3, k4, k5, k6, k7⟩
        · exact .inl h1
        · exact .inr ⟨b, o, cap, cur, e, fz, k1, k2, ⟨(k6 trivial).1, hS.rob b k3⟩, k4, k5, k6, simL_allv h.1 k7⟩
    | _ => simp [newV] at h
theorem outs_sln {r z n : Nat} {cs : List AV} (hr : s.hp r = some (true, cs)) (hl : cs.length = n * z) (hall : cs.all newV = true) : Outs s (.sl r z 0 n) (.ro true z cs n) := by
  intro w0 N tm w phi ro y hS hy
  simp only [SimV] at hy ⊢
  rcases hy.2.2 with ⟨h1, _, rfl, rfl⟩ | ⟨b, o, cap, cur, e, h1, rfl, h3, h4, h5, h6, h7⟩
  · left
    exact ⟨rfl, List.eq_nil_of_length_eq_zero (by omega), none, 0, rfl, fun _ => ⟨rfl, rfl⟩⟩
  · right
    have ho : o = 0 := by
      rcases h4 with h4 | h4
      · exact h4
      · exact absurd h4.2 (Nat.lt_irrefl _)
    subst ho
    rcases hS.liv r _ hr with ⟨h8, _⟩ | ⟨b', cur', e', h8, h9, h10, h11, h12⟩ | ⟨b', o', _, h8, h9, h10, _⟩
    · have : phi r = some b := h1
      rw [h8] at this; cases this
    case inr.inr => exact ob_not_cells h8 h9 h10 h1 h3
    · have h1' : phi r = some b := h1
      rw [h8] at h1'
      cases h1'
      have h3' : w.heap[b]? = some (.cells cur e (0, 0)) := h3
      rw [h9] at h3'
      cases h3'
      have hb : w0.heap.size ≤ b := (h11.resolve_right fun h => by cases h.2).2.resolve_right fun h => by obtain ⟨_, _, h⟩ := h; cases h
      refine ⟨b, 0, cap, cur, e, (0, 0), rfl, h9, ⟨hb, lt_of_get h9⟩, hl, h5, fun _ => ⟨hb, rfl, rfl, h6, by omega⟩, ?_⟩
      simp only [SimR, if_true] at h12
      rw [List.drop_zero]
      exact simL_new hS hall h12
theorem drop_flat {α : Type} (l : List (List α)) (z j : Nat) (h : ∀ r ∈ l, r.length = z) (hj : j < l.length) : (l.flatten.drop (j * z)).take z = l.getD j [] := by
  induction l generalizing j with
  | nil => simp at hj
  | cons r l ih =>
    have hr := h r (List.mem_cons_self ..)
    cases j with
    | zero => simp [← hr]
    | succ j =>
      have := ih j (fun x hx => h x (List.mem_cons_of_mem _ hx)) (by simpa using hj)
      rw [List.flatten_cons, Nat.succ_mul, List.drop_append, List.drop_of_length_le (by omega), List.nil_append, hr]
      rw [show j * z + z - z = j * z by omega, this]
      simp
theorem flat_len {α : Type} (l : List (List α)) (z : Nat) (h : ∀ r ∈ l, r.length = z) : l.flatten.length = l.length * z := by
  induction l with
  | nil => simp
  | cons r l ih => rw [List.flatten_cons, List.length_append, h r (List.mem_cons_self ..), ih fun x hx => h x (List.mem_cons_of_mem _ hx), List.length_cons, Nat.succ_mul]; omega
end Go.Am
namespace Go.Am
variable {s : AS}
theorem mem_self {r : Nat} {c : Bool × List AV} (hr : s.hp r = some c) : s.mem r c = s := by
  obtain ⟨tm, hp⟩ := s
  simp only [AS.mem, AS.mk.injEq, true_and]
  funext q
  by_cases h : q = r
  · subst h; simp only [if_true]; exact hr.symm
  · simp [h]
/-- A region's last cells are forgotten. -/
theorem weak_shrink (r n : Nat) {cs : List AV} (hr : s.hp r = some (true, cs)) (hpl : cs.all plainV = true) : Weak s (s.mem r (true, cs.take n)) := by
  intro w0 mu N a w hS
  obtain ⟨hf, phi, ro, hS⟩ := hS
  rcases hS.liv r _ hr with ⟨_, h2, _⟩ | ⟨b, cur, e, h1, h2, h3, h4, h5⟩ | ⟨b, o, h0, _⟩
  · simp only at h2
    subst h2
    rw [List.take_nil, mem_self hr]
    exact ⟨hf, phi, ro, hS⟩
  · refine ⟨hf, _, ro, hS.write hr h1 h2 h2 rfl (fun _ _ _ => rfl) rfl rfl rfl (Nat.le_refl _) ?_⟩
    simp only [SimR, if_true] at h5 ⊢
    exact h5.take n
  · cases h0
    simp [plainV] at hpl
end Go.Am
namespace Go.Am
/-- A function value bears its first arguments; what it bears, a callee may read asx it is. -/
def Bears (fl : List AV) : Prop := ∀ hp, ∀ x ∈ fl, Lend hp x x
theorem lends_bears {fl : List AV} (h : Bears fl) (hp : Hp) {xs ys : List AV} (k : Lends hp xs ys) : Lends hp (fl ++ xs) (fl ++ ys) := by
  induction fl with
  | nil => exact k
  | cons a l ih => exact lends_cons (h hp a (by simp)) (ih fun hp x hx => h hp x (by simp [hx]))
theorem lend_fn {hp : Hp} {f : FuncId} {l m : List AV} {k : Nat} (h : Lends hp l m) : Lend hp (.fn f l k) (.fn f m k) := by
  intro w0 mu N tm w phi ro v hS hv
  simp only [SimV] at hv ⊢
  obtain ⟨a, b, h1, h2, h3, h4⟩ := hv
  obtain ⟨h5, h6⟩ := h w0 mu N tm w phi ro (a.toList ++ b.toList) hS h4 (by simpa using h3)
  exact ⟨a, b, h1, h2, by simpa using h6, h5⟩
theorem lend_bears {hp : Hp} {f : FuncId} {fl : List AV} {k : Nat} (h : Bears fl) : Lend hp (.fn f fl k) (.fn f fl k) := by
  have := lends_bears h hp lends_nil
  simp only [List.append_nil] at this
  exact lend_fn this
theorem refsL_plain {keep : Nat → Bool} {l : List AV} (h : l.all plainV = true) : refsL keep l = true := by
  induction l with
  | nil => simp [refsL]
  | cons a l ih =>
    simp only [List.all_cons, Bool.and_eq_true] at h
    simp only [refsL, ih h.2, Bool.and_true]
    cases a <;> simp [plainV] at h <;> simp [refsV]
section
variable {s : AS}
theorem tm_put_ne' {d t : Nat} {x : AV} (h : t ≠ d) : (s.put (some d) x).tm t = s.tm t := by simp [AS.put, h]
theorem tm_put_none {t : Nat} {x : AV} : (s.put none x).tm t = s.tm t := rfl
theorem tm_mem {r t : Nat} {c : Bool × List AV} : (s.mem r c).tm t = s.tm t := rfl
theorem tm_kill {r t : Nat} : (s.kill r).tm t = killV r (s.tm t) := rfl
theorem tm_mv {r q t : Nat} {c : List AV} : (s.mv r q c).tm t = mvV r q (s.tm t) := rfl
theorem tm_st {l : List (Nat × AV)} {h : List (Nat × (Bool × List AV))} {t : Nat} : (st l h).tm t = (look l t).getD .any := rfl
theorem tm_en0 {a : AV} {l : List AV} : (enter0 (a :: l)).tm 0 = a := rfl
theorem tm_en1 {a b : AV} {l : List AV} : (enter0 (a :: b :: l)).tm 1 = b := rfl
theorem tm_en2 {a b c : AV} {l : List AV} : (enter0 (a :: b :: c :: l)).tm 2 = c := rfl
theorem tm_en3 {a b c d : AV} {l : List AV} : (enter0 (a :: b :: c :: d :: l)).tm 3 = d := rfl
theorem tm_en4 {a b c d e : AV} {l : List AV} : (enter0 (a :: b :: c :: d :: e :: l)).tm 4 = e := rfl
end
section
variable {f : FuncId} {fl : List AV} {k r q : Nat}
theorem kill_fn (h : ∀ r, killL r fl = fl) : killV r (.fn f fl k) = .fn f fl k := by simp only [killV, h]
theorem mv_fn (h : ∀ r, killL r fl = fl) : mvV r q (.fn f fl k) = .fn f fl k := by simp only [mvV, killV, h]
end
theorem lends_self {fl : List AV} (h : Bears fl) (hp : Hp) : Lends hp fl fl := by
  have := lends_bears h hp lends_nil
  simpa only [List.append_nil] using this
theorem lend_fnc {hp : Hp} {f : FuncId} : Lend hp (.v (.func (.func f) #[] #[])) (.fn f [] 0) := by
  intro w0 mu N tm w phi ro v hS hv
  simp only [SimV] at hv ⊢
  exact ⟨#[], #[], hv, rfl, rfl, by simp [SimL]⟩
/- Boards asx texts. -/
theorem getD_memL {α : Type} {l : List α} {d : α} {m : Nat} (h : m < l.length) : l.getD m d ∈ l := by
  have : l.getD m d = l[m] := by simp [h]
  rw [this]
  exact List.getElem_mem h
end Go.Am
namespace Go.Am
variable {P : Program} {own : Bool} {d : Option Nat} {s : AS} {K : AS → Prop} {N : Nat}
section
variable {x y z : Opd} {A B : List UInt8}
theorem str_beq (A B : List UInt8) : ((⟨A.toArray⟩ : ByteArray).toList == (⟨B.toArray⟩ : ByteArray).toList) = decide (A = B) := by
  rw [ByteArray.toList_eq, ByteArray.toList_eq, Bool.eq_iff_iff]
  simp
theorem m_eqs (hx : s.ev x = str A) (hy : s.ev y = str B) (k : K (s.put d (.b (decide (A = B))))) : aop1 P own ⟨d, .bin .eql x y, none⟩ s K := by
  refine ⟨_, _, _, hx, hy, rfl, ?_⟩
  rw [str_beq]
  exact k
theorem m_neqs (hx : s.ev x = str A) (hy : s.ev y = str B) (k : K (s.put d (.b (!decide (A = B))))) : aop1 P own ⟨d, .bin .neq x y, none⟩ s K := by
  refine ⟨_, _, _, hx, hy, rfl, ?_⟩
  rw [str_beq]
  exact k
theorem m_eqk {q : IntKind} {a b : Int} (hx : s.ev x = .v (.int q a)) (hy : s.ev y = .v (.int q b)) (k : K (s.put d (.b (decide (a = b))))) : aop1 P own ⟨d, .bin .eql x y, none⟩ s K := by
  refine ⟨_, _, .bool (a == b), hx, hy, by simp [pbin], ?_⟩
  rw [show (a == b) = decide (a = b) from by rw [Bool.eq_iff_iff]; simp]
  exact k
theorem m_neqk {q : IntKind} {a b : Int} (hx : s.ev x = .v (.int q a)) (hy : s.ev y = .v (.int q b)) (k : K (s.put d (.b (decide (a ≠ b))))) : aop1 P own ⟨d, .bin .neq x y, none⟩ s K := by
  refine ⟨_, _, .bool (a != b), hx, hy, by simp [pbin], ?_⟩
  rw [show (a != b) = decide (a ≠ b) from by rw [Bool.eq_iff_iff]; simp]
  exact k
end
theorem m_fa_rp {x : Opd} {off : Nat} {cs : List AV} (hx : s.ev x = .rp cs) (k : K (s.put d (.rp (cs.drop off)))) : aop1 P own ⟨d, .fa off x, none⟩ s K := .inr ⟨cs, hx, k⟩
theorem outs_agg2 {a b a' b' : AV} (h1 : Outs s a a') (h2 : Outs s b b') : Outs s (.agg [a, b]) (.agg [a', b']) := by
  intro w0 N tm w phi ro y hS h
  simp only [SimV] at h ⊢
  obtain ⟨ar, k1, k2, k3⟩ := h
  obtain ⟨l⟩ := ar
  match l, k2, k3 with
  | [p, q], _, k3 =>
    simp only [SimL] at k3
    exact ⟨_, k1, rfl, by simp only [SimL, and_true]; exact ⟨h1 _ _ _ _ _ _ _ hS k3.1, h2 _ _ _ _ _ _ _ hS k3.2.1⟩⟩
/-- An operation, something being forgotten first. -/
theorem step_opsW {o : AOper} {l : List AOper} {s' : AS} {Q : AS → Prop} (hw : Weak s s') (h : aop1 P own o s' fun s' => aops P own l s' Q) : aops P own (o :: l) s Q := ⟨s', hw, h⟩

/- Results of which some lie in cells. -/
end Go.Am
namespace Go.Am
variable {P : Program} {own : Bool} {N : Nat} {s : AS} {K : AS → Prop} {d : Option Nat}
/-- How long an exact nil is. -/
theorem m_len_nil {x : Opd} (hx : s.ev x = .v (.slice none 0 0)) (k : K (s.put d (.i (0 : Nat)))) : aop1 P own ⟨d, .len x, none⟩ s K := .inr (.inr ⟨none, 0, 0, hx, k⟩)
theorem look_isSome {β : Type} {l : List (Nat × β)} {t : Nat} : (look l t).isSome = true ↔ t ∈ l.map (·.1) := by
  induction l with
  | nil => simp [look]
  | cons p l ih =>
    obtain ⟨k, x⟩ := p
    simp only [look, List.map_cons, List.mem_cons]
    by_cases e : t = k
    · simp [e]
    · rw [if_neg e, ih]; simp [e]
theorem look_inj {g : Nat → Nat} : ∀ {l : List (Nat × (Bool × List AV))} {r r' : Nat}, (l.map fun p => g p.1).Nodup → r ∈ l.map (·.1) → r' ∈ l.map (·.1) → g r = g r' → r = r'
  | [], _, _, _, h, _, _ => by simp at h
  | (k, x) :: l, r, r', hn, h1, h2, e => by
    simp only [List.map_cons, List.nodup_cons, List.mem_cons] at hn h1 h2
    have key : ∀ q, q ∈ l.map (·.1) → g q ∈ l.map fun p => g p.1 := fun q hq => by
      obtain ⟨p, hp, rfl⟩ := List.mem_map.1 hq
      exact List.mem_map.2 ⟨p, hp, rfl⟩
    rcases h1 with rfl | h1
    · rcases h2 with rfl | h2
      · rfl
      · exact absurd (e ▸ key _ h2) hn.1
    · rcases h2 with rfl | h2
      · exact absurd (e ▸ key _ h1) hn.1
      · exact look_inj hn.2 h1 h2 e
/-- Each region of a list is there, under its name. -/
def HasI (s : AS) (g : Nat → Nat) : List (Nat × (Bool × List AV)) → Prop
  | [] => True
  | (r, c) :: l => s.hp (g r) = some (renR g c) ∧ HasI s g l
def HasO (s : AS) (g : Nat → Nat) : List (Nat × (Bool × List AV)) → Prop
  | [] => True
  | (r, c) :: l => (∃ c0, s.hp (g r) = some c0 ∧ (c0 = renR g c ∨ (c.2 = [] ∧ c0.2 = []))) ∧ HasO s g l
theorem HasI.all {g : Nat → Nat} : ∀ {l : List (Nat × (Bool × List AV))}, HasI s g l → ∀ p ∈ l, s.hp (g p.1) = some (renR g p.2)
  | [], _, _, hp => by simp at hp
  | _ :: _, h, p, hp => by
    rcases List.mem_cons.1 hp with rfl | hp
    · exact h.1
    · exact HasI.all h.2 p hp
theorem HasO.all {g : Nat → Nat} : ∀ {l : List (Nat × (Bool × List AV))}, HasO s g l → ∀ p ∈ l, ∃ c0, s.hp (g p.1) = some c0 ∧ (c0 = renR g p.2 ∨ (p.2.2 = [] ∧ c0.2 = []))
  | [], _, _, hp => by simp at hp
  | _ :: _, h, p, hp => by
    rcases List.mem_cons.1 hp with rfl | hp
    · exact h.1
    · exact HasO.all h.2 p hp
/-- What is asked of such lists. -/
theorem static_R {hl ho : List (Nat × (Bool × List AV))} {res : AV} (h1 : ∀ p ∈ hl, pbase ≤ p.1) (h2 : ∀ p ∈ ho, ownL false p.2.2 = true ∧ refsL (fun r => (look ho r).isSome) p.2.2 = true) (h3 : ownV false res = true ∧ refsV (fun r => (look ho r).isSome) res = true) : Static (look hl) res (look ho) :=
  ⟨fun r hr => by
    obtain ⟨p, hp, rfl⟩ := List.mem_map.1 (look_isSome.1 hr)
    exact h1 p hp, fun r c hc => h2 _ (look_mem hc), h3⟩
/-- The end of such a function. -/
theorem ret_R {ts : List Nat} {res : AV} {hl ho : List (Nat × (Bool × List AV))} (g : Nat → Nat) (h1 : resAV s ts = renV g res) (hO : HasO s g ho) (h3 : ∀ p ∈ hl, g p.1 = p.1 ∧ p.1 ∈ ho.map (·.1))
    (h4 : ∀ p ∈ ho, p.1 ∈ hl.map (·.1) ∨ g p.1 < pbase) (h5 : (ho.map fun p => g p.1).Nodup) : DoneH ts res (look hl) (look ho) .ret s := by
  have h2 := hO.all
  refine ret_doneh g h1 (fun r c hc => h2 _ (look_mem hc)) (fun r hr => ?_) (fun r hr hn => ?_) fun r r' a b e => look_inj h5 (look_isSome.1 a) (look_isSome.1 b) e
  · obtain ⟨p, hp, rfl⟩ := List.mem_map.1 (look_isSome.1 hr)
    exact ⟨(h3 p hp).1, look_isSome.2 (h3 p hp).2⟩
  · obtain ⟨p, hp, rfl⟩ := List.mem_map.1 (look_isSome.1 hr)
    rcases h4 p hp with k | k
    · have := look_isSome.2 k
      rw [hn] at this
      cases this
    · exact k
/-- Regions under other names; cells that lead nowhere stay asx they are. -/
def HasJ (s : AS) (f : Nat → Nat) : List (Nat × (Bool × List AV)) → Prop
  | [] => True
  | (r, (true, cs)) :: l => s.hp (f r) = some (true, cs) ∧ HasJ s f l
  | (r, (false, cs)) :: l => s.hp (f r) = some (false, renL f cs) ∧ HasJ s f l
theorem HasJ.at {f : Nat → Nat} : ∀ {h : List (Nat × (Bool × List AV))} {r : Nat} {c : Bool × List AV}, HasJ s f h → (r, c) ∈ h → ∃ c0, s.hp (f r) = some c0 ∧ cellsRen f c0 c
  | [], _, _, _, hm => by simp at hm
  | (k, (true, cs)) :: l, r, c, h, hm => by
    rcases List.mem_cons.1 hm with e | hm
    · cases e; exact ⟨_, h.1, .inl ⟨rfl, rfl⟩⟩
    · exact HasJ.at h.2 hm
  | (k, (false, cs)) :: l, r, c, h, hm => by
    rcases List.mem_cons.1 hm with e | hm
    · cases e; exact ⟨_, h.1, .inr ⟨rfl, .inl rfl⟩⟩
    · exact HasJ.at h.2 hm
end Go.Am
namespace Go.Am
variable {P : Program} {own : Bool} {N : Nat} {s : AS} {K : AS → Prop} {d : Option Nat}
/-- An unsigned integer of sixteen bits. -/
abbrev AV.u (a : Nat) : AV := .v (.int .u16 (a : Int))
theorem wrap16 {a : Nat} (h : a < 65536) : IntKind.u16.wrap (a : Int) = (a : Int) := by
  have : IntKind.u16.wrap (a : Int) = (a : Int) % 65536 := by simp [IntKind.wrap, IntKind.bits, IntKind.signed]
  omega
theorem ofInt16 {a : Nat} (h : a < 65536) : (BitVec.ofInt IntKind.u16.bits (a : Int)).toNat = a := by
  show (BitVec.ofInt 16 (a : Int)).toNat = a
  rw [BitVec.ofInt_natCast, BitVec.toNat_ofNat]
  omega
theorem and16_lt {a b : Nat} (h : a < 65536) : a &&& b < 65536 := Nat.lt_of_le_of_lt Nat.and_le_left h
theorem or16_lt {a b : Nat} (h : a < 65536) (h2 : b < 65536) : a ||| b < 65536 := Nat.or_lt_two_pow (n := 16) h h2
theorem shl16_lt {k : Nat} (h : k < 16) : 1 <<< k < 65536 := by
  rw [Nat.one_shiftLeft]
  exact Nat.pow_lt_pow_right (by decide) h
section
variable {x y : Opd} {a b k : Nat}
theorem m_shr16 (hx : s.ev x = .u a) (hy : s.ev y = .i (k : Nat)) (hk : k < 16) (kk : K (s.put d (.u (a >>> k)))) : aop1 P own ⟨d, .bin .shr x y, none⟩ s K := by
  refine ⟨_, _, _, hx, hy, ?_, kk⟩
  have h1 : ¬ ((k : Nat) : Int) < 0 := by omega
  have h2 : min ((k : Nat) : Int).toNat IntKind.u16.bits = k := by show min _ 16 = k; omega
  show (if ((k : Nat) : Int) < 0 then none else some (Value.int .u16 ((a : Int).fdiv (2 ^ (min ((k : Nat) : Int).toNat IntKind.u16.bits))))) = _
  rw [if_neg h1, h2, Nat.shiftRight_eq_div_pow]
  congr 2
  rw [Int.fdiv_eq_ediv_of_nonneg _ (by exact Int.le_of_lt (Int.pow_pos (by decide)))]
  push_cast
  rfl
theorem m_shl16 (hx : s.ev x = .u 1) (hy : s.ev y = .i (k : Nat)) (hk : k < 16) (kk : K (s.put d (.u (1 <<< k)))) : aop1 P own ⟨d, .bin .shl x y, none⟩ s K := by
  refine ⟨_, _, _, hx, hy, ?_, kk⟩
  have h1 : ¬ ((k : Nat) : Int) < 0 := by omega
  have h2 : min ((k : Nat) : Int).toNat IntKind.u16.bits = k := by show min _ 16 = k; omega
  show (if ((k : Nat) : Int) < 0 then none else some (Value.int .u16 (IntKind.u16.wrap ((1 : Int) * 2 ^ (min ((k : Nat) : Int).toNat IntKind.u16.bits))))) = _
  rw [if_neg h1, h2]
  congr 2
  have : ((1 : Int) * (2 : Int) ^ k) = ((1 <<< k : Nat) : Int) := by rw [Nat.one_shiftLeft, Int.one_mul]; push_cast; rfl
  exact (congrArg _ this).trans (wrap16 (shl16_lt hk))
theorem m_and16 (hx : s.ev x = .u a) (hy : s.ev y = .u b) (ha : a < 65536) (hb : b < 65536) (kk : K (s.put d (.u (a &&& b)))) : aop1 P own ⟨d, .bin .and x y, none⟩ s K := by
  refine ⟨_, _, _, hx, hy, ?_, kk⟩
  show some (Value.int .u16 (IntKind.u16.wrap ((BitVec.ofInt IntKind.u16.bits (a : Int) &&& BitVec.ofInt IntKind.u16.bits (b : Int)).toNat : Int))) = _
  rw [BitVec.toNat_and, ofInt16 ha, ofInt16 hb, wrap16 (and16_lt ha)]
theorem m_or16 (hx : s.ev x = .u a) (hy : s.ev y = .u b) (ha : a < 65536) (hb : b < 65536) (kk : K (s.put d (.u (a ||| b)))) : aop1 P own ⟨d, .bin .or x y, none⟩ s K := by
  refine ⟨_, _, _, hx, hy, ?_, kk⟩
  show some (Value.int .u16 (IntKind.u16.wrap ((BitVec.ofInt IntKind.u16.bits (a : Int) ||| BitVec.ofInt IntKind.u16.bits (b : Int)).toNat : Int))) = _
  rw [BitVec.toNat_or, ofInt16 ha, ofInt16 hb, wrap16 (or16_lt ha hb)]
theorem m_eql16 (hx : s.ev x = .u a) (hy : s.ev y = .u b) (kk : K (s.put d (.b (decide (a = b))))) : aop1 P own ⟨d, .bin .eql x y, none⟩ s K := by
  refine ⟨_, _, _, hx, hy, rfl, ?_⟩
  rw [show (((a : Nat) : Int) == ((b : Nat) : Int)) = decide (a = b) from by rw [Bool.eq_iff_iff]; simp; omega]
  exact kk
theorem m_and16_1 (hx : s.ev x = .u a) (hy : s.ev y = .u 1) (ha : a < 65536) (kk : K (s.put d (.u (a &&& 1)))) : aop1 P own ⟨d, .bin .and x y, none⟩ s K := m_and16 hx hy ha (by decide) kk
theorem m_eql16_1 (hx : s.ev x = .u a) (hy : s.ev y = .u 1) (kk : K (s.put d (.b (decide (a = 1))))) : aop1 P own ⟨d, .bin .eql x y, none⟩ s K := m_eql16 hx hy kk
end
theorem bit_and (a k : Nat) : decide ((a >>> k) &&& 1 = 1) = a.testBit k := by
  rw [Nat.testBit, Nat.and_comm]
  have := Nat.one_and_eq_mod_two (a >>> k)
  rcases Nat.mod_two_eq_zero_or_one (a >>> k) with h | h <;> simp [this, h]
theorem bit_or (a k i : Nat) : (a ||| 1 <<< k).testBit i = (a.testBit i || decide (i = k)) := by
  rw [Nat.testBit_or, Nat.one_shiftLeft, Nat.testBit_two_pow]
  by_cases h : k = i
  · subst h; simp
  · simp [h, Ne.symm h]
end Go.Am
namespace Go.Am
/-- May a function value, of which the first k that it bears stand before the arguments and the others behind, be asked whether a guest fits behind a list? -/
structure AsksK (P : Program) (f : FuncId) (fl : List AV) (k : Nat) (n : Nat) (fits : List Int → Nat → Bool) : Prop where
  call : Callable P f
  bears : Bears fl
  norefs : ∀ keep, refsL keep fl = true
  nokill : ∀ r, killL r fl = fl
  spec : ∀ (M : List Int) (y : Nat), M.length < n → (∀ x ∈ M, 0 ≤ x ∧ x < n) → y < n → Sp P f (fl.take k ++ [ints M, .i y] ++ fl.drop k) (.b (fits M y))
theorem bears_sub {l m : List AV} (h : Bears m) (hs : ∀ x ∈ l, x ∈ m) : Bears l := fun hp x hx => h hp x (hs x hx)
theorem lends_app {hp : Hp} : ∀ {xs asx : List AV} {ys bs : List AV}, Lends hp xs asx → xs.length = asx.length → Lends hp ys bs → Lends hp (xs ++ ys) (asx ++ bs) := by
  intro xs asx ys bs h1 hl h2 w0 mu N tm w phi ro vs hS hs hlen
  have hsp : vs = vs.take xs.length ++ vs.drop xs.length := (List.take_append_drop _ _).symm
  have key : ∀ (xs ys : List AV) (C : Ctx) (us ws : List Value), us.length = xs.length → SimL (xs ++ ys) C (us ++ ws) → SimL xs C us ∧ SimL ys C ws := by
    intro xs
    induction xs with
    | nil => intro ys C us ws hl h; have : us = [] := List.eq_nil_of_length_eq_zero (by simpa using hl); subst this; exact ⟨by simp [SimL], h⟩
    | cons a l ih =>
      intro ys C us ws hl h
      match us with
      | [] => simp at hl
      | u :: us =>
        simp only [List.cons_append, SimL] at h ⊢
        obtain ⟨h3, h4⟩ := ih ys C us ws (by simpa using hl) h.2
        exact ⟨⟨h.1, h3⟩, h4⟩
  have key2 : ∀ (asx bs : List AV) (C : Ctx) (us ws : List Value), us.length = asx.length → SimL asx C us → SimL bs C ws → SimL (asx ++ bs) C (us ++ ws) := by
    intro asx
    induction asx with
    | nil => intro bs C us ws hl _ h; have : us = [] := List.eq_nil_of_length_eq_zero (by simpa using hl); subst this; exact h
    | cons a l ih =>
      intro bs C us ws hl h h2
      match us with
      | [] => simp at hl
      | u :: us =>
        simp only [List.cons_append, SimL] at h ⊢
        exact ⟨h.1, ih bs C us ws (by simpa using hl) h.2 h2⟩
  have hl1 : (vs.take xs.length).length = xs.length := by rw [List.length_take, hlen, List.length_append]; omega
  have hl2 : (vs.drop xs.length).length = ys.length := by rw [List.length_drop, hlen, List.length_append]; omega
  rw [hsp] at hs
  obtain ⟨h3, h4⟩ := key xs ys _ _ _ hl1 hs
  obtain ⟨h5, h6⟩ := h1 w0 mu N tm w phi ro _ hS h3 hl1
  obtain ⟨h7, h8⟩ := h2 w0 mu N tm w phi ro _ hS h4 hl2
  refine ⟨?_, by rw [List.length_append, ← h6, ← h8, ← List.length_append, ← hsp]⟩
  rw [hsp]
  exact key2 asx bs _ _ _ (by rw [hl1, hl]) h5 h7
theorem asksK_lend {s : AS} {fl : List AV} {k : Nat} {args : List Opd} {xs ys : List AV} (h : Bears fl) (he : args.map s.ev = xs) (hl : xs.length = ys.length) (kk : Lends s.hp xs ys) : Lends s.hp (fl.take k ++ args.map s.ev ++ fl.drop k) (fl.take k ++ ys ++ fl.drop k) := by
  rw [he]
  have h1 := bears_sub (l := fl.take k) h fun x hx => List.mem_of_mem_take hx
  have h2 := bears_sub (l := fl.drop k) h fun x hx => List.mem_of_mem_drop hx
  refine lends_app (lends_bears h1 _ kk) (by simp [hl]) (lends_self h2 _)
end Go.Am
namespace Go.Am
mutual
/-- Exact values, and slices and pointers that are read, all through. -/
def readV : AV → Bool
  | .v _ => true
  | .ro fr _ cs _ => !fr && readL cs
  | .rp cs => readL cs
  | .any => false
  | .sl _ _ _ _ => false
  | .pt _ _ => false
  | .agg _ => false
  | .tup _ => false
  | .mp _ => false
  | .itr _ => false
  | .ob _ => false
  | .fn _ _ _ => false
  | .rmp _ _ _ => false
  | .fu _ _ _ => false
def readL : List AV → Bool
  | [] => true
  | a :: l => readV a && readL l
end
mutual
theorem SimV.read : ∀ (x : AV) (C D : Ctx) (y : Value), readV x = true → D.heap = C.heap → (∀ b, C.ro b → D.ro b) → SimV x C y → SimV x D y
  | .v _, _, _, _, _, _, _, h => by simpa only [SimV] using h
  | .ro fr z cs n, C, D, y, hr, hh, hro, h => by
    simp only [readV, Bool.and_eq_true, Bool.not_eq_true'] at hr
    simp only [SimV] at h ⊢
    rcases h with h | ⟨b, o, cap, cur, e, fz, h1, h2, h3, h4, h5, h6, h7⟩
    · exact .inl h
    · exact .inr ⟨b, o, cap, cur, e, fz, h1, by rw [hh]; exact h2, hro b h3, h4, h5, (fun e => by rw [hr.1] at e; cases e), SimL.read cs C.out D.out _ hr.2 hh hro h7⟩
  | .rp cs, C, D, y, hr, hh, hro, h => by
    simp only [readV] at hr
    simp only [SimV] at h ⊢
    obtain ⟨b, o, cur, e, fz, h1, h2, h3, h4⟩ := h
    exact ⟨b, o, cur, e, fz, h1, by rw [hh]; exact h2, hro b h3, SimL.read cs C.out D.out _ hr hh hro h4⟩
  | .any, _, _, _, hr, _, _, _ => by simp [readV] at hr
  | .sl _ _ _ _, _, _, _, hr, _, _, _ => by simp [readV] at hr
  | .pt _ _, _, _, _, hr, _, _, _ => by simp [readV] at hr
  | .agg _, _, _, _, hr, _, _, _ => by simp [readV] at hr
  | .tup _, _, _, _, hr, _, _, _ => by simp [readV] at hr
  | .mp _, _, _, _, hr, _, _, _ => by simp [readV] at hr
  | .itr _, _, _, _, hr, _, _, _ => by simp [readV] at hr
  | .ob _, _, _, _, hr, _, _, _ => by simp [readV] at hr
  | .fn _ _ _, _, _, _, hr, _, _, _ => by simp [readV] at hr
  | .rmp _ _ _, _, _, _, hr, _, _, _ => by simp [readV] at hr
  | .fu _ _ _, _, _, _, hr, _, _, _ => by simp [readV] at hr
theorem SimL.read : ∀ (l : List AV) (C D : Ctx) (ys : List Value), readL l = true → D.heap = C.heap → (∀ b, C.ro b → D.ro b) → SimL l C ys → SimL l D ys
  | [], _, _, _, _, _, _, _ => by simp [SimL]
  | _ :: _, _, _, [], _, _, _, h => by simp [SimL] at h
  | a :: l, C, D, y :: ys, hr, hh, hro, h => by
    simp only [readL, Bool.and_eq_true] at hr
    simp only [SimL] at h ⊢
    exact ⟨SimV.read a C D y hr.1 hh hro h.1, SimL.read l C D ys hr.2 hh hro h.2⟩
end
theorem lend_read {hp : Hp} {x : AV} (hr : readV x = true) : Lend hp x x := by
  intro w0 mu N tm w phi ro v hS hv
  exact SimV.read x (ctx w0 w ro phi ⟨fun _ => .any, hp⟩) _ v hr rfl (fun b hb => hS.rob b hb) hv
theorem bears_read {l : List AV} (h : readL l = true) : Bears l := by
  intro hp x hx
  refine lend_read ?_
  induction l with
  | nil => cases hx
  | cons a l ih =>
    simp only [readL, Bool.and_eq_true] at h
    rcases List.mem_cons.1 hx with rfl | hx
    · exact h.1
    · exact ih h.2 hx
end Go.Am
namespace Go.Am
variable {P : Program}
/-- Values that are read, in structs too. -/
def flatA : AV → Bool
  | .agg l => readL l
  | x => readV x
theorem simV_flat {x : AV} {C D : Ctx} {y : Value} (hr : flatA x = true) (hh : D.heap = C.heap) (hro : ∀ b, C.ro b → D.ro b) (h : SimV x C y) : SimV x D y := by
  cases x with
  | agg l =>
    simp only [flatA] at hr
    simp only [SimV] at h ⊢
    obtain ⟨a, h1, h2, h3⟩ := h
    exact ⟨a, h1, h2, SimL.read l C D _ hr hh hro h3⟩
  | _ => exact SimV.read _ C D y hr hh hro h
theorem simL_flat : ∀ {l : List AV} {C D : Ctx} {ys : List Value}, l.all flatA = true → D.heap = C.heap → (∀ b, C.ro b → D.ro b) → SimL l C ys → SimL l D ys
  | [], _, _, _, _, _, _, _ => by simp [SimL]
  | _ :: _, _, _, [], _, _, _, h => by simp [SimL] at h
  | a :: l, C, D, y :: ys, hr, hh, hro, h => by
    rw [List.all_cons, Bool.and_eq_true] at hr
    simp only [SimL] at h ⊢
    exact ⟨simV_flat hr.1 hh hro h.1, simL_flat hr.2 hh hro h.2⟩
/-- The region that a new slice becomes. -/
abbrev oneH (cs : List AV) : List (Nat × (Bool × List AV)) := [(nbase, (true, cs))]
theorem inj_one {cs : List AV} {bo : Option Nat} : Inj (look (oneH cs)) (fun r => if r = nbase then bo else none) := by
  intro r r' b h1 h2 _ _
  have k : ∀ r, (look (oneH cs) r).isSome = true → r = nbase := fun r h => by
    have := look_isSome.1 h
    simpa using this
  rw [k r h1, k r' h2]
theorem m_boxd {own : Bool} {s : AS} {K : AS → Prop} {x : Opd} {r n : Nat} {l : List AV} (hx : s.ev x = .agg l) (hok : l.all (cellOk false) = true) (hk : killR r (false, l) = (false, l)) (k : K (((s.kill r).mem r (false, l)).put (some r) (.pt r 0))) : aop1 P own ⟨some r, .box n x, none⟩ s K :=
  ⟨r, false, rfl, .inr ⟨l, hx, hok, by rw [hk]; exact k⟩⟩
/-- Texts in a slice. -/
def txs (G : List (List UInt8)) : List AV := G.map fun r => str r
theorem txs_len (G : List (List UInt8)) : (txs G).length = G.length := by simp [txs]
theorem txs_plain (G : List (List UInt8)) : (txs G).all plainV = true := by simp [txs, plainV]
/-- A struct of a number and texts, read; a new one. -/
abbrev pln (c : Int) (G : List (List UInt8)) : AV := .agg [.i c, .ro false 1 (txs G) G.length]
theorem lend_txr {hp : Hp} {fr : Bool} {G : List (List UInt8)} {n : Nat} (hn : n = G.length) : Lend hp (.ro fr 1 (txs G) n) (.ro false 1 (txs G) G.length) := by
  subst hn
  exact lend_ro (txs_plain G)
theorem lend_txs {hp : Hp} {r n : Nat} {G : List (List UInt8)} (hr : hp r = some (true, txs G)) (hn : n = G.length) : Lend hp (.sl r 1 0 n) (.ro false 1 (txs G) G.length) := by
  subst hn
  have h := lend_sl (z := 1) (off := 0) (n := G.length) hr (by rw [txs_len]; omega) (txs_plain G)
  have e : ((txs G).drop 0).take (G.length * 1) = txs G := by rw [List.drop_zero, Nat.mul_one]; exact List.take_of_length_le (by rw [txs_len]; omega)
  rw [e] at h
  exact h
theorem lend_pln {hp : Hp} {fr : Bool} {c : Int} {G : List (List UInt8)} {n : Nat} (hn : n = G.length) : Lend hp (.agg [.i c, .ro fr 1 (txs G) n]) (pln c G) :=
  lend_aggs (lends_cons lend_v (lends_cons (lend_txr hn) lends_nil))
theorem lend_plns {hp : Hp} {r : Nat} {c : Int} {G : List (List UInt8)} {n : Nat} (hr : hp r = some (true, txs G)) (hn : n = G.length) : Lend hp (.agg [.i c, .sl r 1 0 n]) (pln c G) :=
  lend_aggs (lends_cons lend_v (lends_cons (lend_txs hr hn) lends_nil))
end Go.Am
namespace Go.Am
variable {P : Program} {s : AS} {K : AS → Prop} {d : Option Nat}
theorem look_one {cs : List AV} {r : Nat} {c : Bool × List AV} (h : look (oneH cs) r = some c) : r = nbase ∧ c = (true, cs) := by
  have := look_mem h
  rw [List.mem_singleton] at this
  exact ⟨congrArg Prod.fst this, congrArg Prod.snd this⟩
theorem look_one_is {cs : List AV} {r : Nat} (h : (look (oneH cs) r).isSome = true) : r = nbase := by
  obtain ⟨c, hc⟩ := Option.isSome_iff_exists.1 h
  exact (look_one hc).1
/-- A call that hands out one new region. -/
theorem m_new1 {f : FuncId} {args : List Opd} {asx : List AV} {cs : List AV} {res : AV} (q : Nat) (hs : SpH P f asx (look []) res (look (oneH cs))) (hl : Lends s.hp (args.map s.ev) asx) (hq : s.hp q = none) (hqp : q < pbase)
    (hren : ∀ g, renL g cs = cs) (hown : ownL false cs = true) (hor : ownV false res = true) (k : K ((s.mem q (true, cs)).put d (renV (fun r => if r = nbase then q else r) res))) : aop1 P true ⟨d, .call f args, none⟩ s K := by
  refine m_callh (hp' := (s.mem q (true, cs)).hp) (fun r => if r = nbase then q else r) hs (lendsH_none hl) ⟨fun r c hc => by simp [look] at hc, fun r r' h1 h2 _ => ?_, fun r hr => by simp [look] at hr, fun r hr _ => ?_, fun r c hc => ?_, fun q' hq' => ?_, fun r c hc => by simp [look] at hc, fun r c hc => ?_, hor⟩ k
  · rw [look_one_is h1, look_one_is h2]
  · rw [look_one_is hr, if_pos rfl]
    exact ⟨hq, hqp⟩
  · obtain ⟨rfl, rfl⟩ := look_one hc
    rw [if_pos rfl]
    show (if q = q then some (true, cs) else s.hp q) = some (true, renL _ cs)
    rw [if_pos rfl, hren]
  · have hne : q' ≠ q := fun e => by
      refine hq' nbase (by simp [look]) ?_
      rw [if_pos rfl]
      exact e.symm
    exact hp_mem_ne hne
  · obtain ⟨rfl, rfl⟩ := look_one hc
    exact hown
/-- The one region that such a call is lent. -/
abbrev lenH (cs : List AV) : List (Nat × (Bool × List AV)) := [(pbase, (true, cs))]
theorem look_len {cs : List AV} {r : Nat} {c : Bool × List AV} (h : look (lenH cs) r = some c) : r = pbase ∧ c = (true, cs) := by
  have := look_mem h
  rw [List.mem_singleton] at this
  exact ⟨congrArg Prod.fst this, congrArg Prod.snd this⟩
theorem look_len_is {cs : List AV} {r : Nat} (h : (look (lenH cs) r).isSome = true) : r = pbase := by
  obtain ⟨c, hc⟩ := Option.isSome_iff_exists.1 h
  exact (look_len hc).1
end Go.Am
namespace Go.Am
abbrev Clu := Int × Int × Int
/-- A clue's cells; those of several. -/
def cC (c : Clu) : List AV := [.i c.1, .i c.2.1, .i c.2.2]
def cls (C : List Clu) : List AV := C.flatMap cC
theorem cls_len (C : List Clu) : (cls C).length = C.length * 3 := by
  induction C with
  | nil => rfl
  | cons a l ih =>
    show (cC a ++ cls l).length = _
    rw [List.length_append, ih, List.length_cons, Nat.add_mul]
    show 3 + _ = _
    omega
theorem cls_plain (C : List Clu) : (cls C).all plainV = true := by
  induction C with
  | nil => rfl
  | cons a l ih =>
    show (cC a ++ cls l).all plainV = true
    rw [List.all_append, ih]
    rfl
theorem cls_app (C D : List Clu) : cls (C ++ D) = cls C ++ cls D := by simp [cls]
theorem cls_drop (C : List Clu) (k : Nat) : (cls C).drop (k * 3) = cls (C.drop k) := by
  induction k generalizing C with
  | zero => simp
  | succ k ih =>
    cases C with
    | nil => simp [cls]
    | cons a l =>
      show (cC a ++ cls l).drop ((k + 1) * 3) = cls (l.drop k)
      rw [Nat.add_mul, Nat.one_mul, Nat.add_comm, ← List.drop_drop, ← ih l]
      rfl
theorem cls_take (C : List Clu) (k : Nat) : (cls C).take (k * 3) = cls (C.take k) := by
  induction k generalizing C with
  | zero => simp [cls]
  | succ k ih =>
    cases C with
    | nil => simp [cls]
    | cons a l =>
      show (cC a ++ cls l).take ((k + 1) * 3) = cC a ++ cls (l.take k)
      rw [Nat.add_mul, Nat.one_mul, ← ih l, List.take_append, show (cC a).length = 3 from rfl, Nat.add_sub_cancel]
      rw [List.take_of_length_le (show (cC a).length ≤ k * 3 + 3 by show 3 ≤ _; omega)]
theorem cls_at {C : List Clu} {k : Nat} (h : k < C.length) : ((cls C).drop (k * 3)).take 3 = cC (C.getD k (0, 0, 0)) := by
  rw [cls_drop, List.drop_eq_getElem_cons h]
  show (cC C[k] ++ cls (C.drop (k + 1))).take 3 = _
  rw [List.take_append]
  simp [cC, h]
abbrev pzl (g : Int) (C : List Clu) : AV := .agg [.i g, .ro false 3 (cls C) C.length]
abbrev newPz (g : Int) (C : List Clu) : AV := .agg [.i g, .ro true 3 (cls C) C.length]
/-- What a clue is; what a puzzle is. -/
def IsClu (g : Int) (c : Clu) : Prop :=
  if c.1 = 0 ∨ c.1 = 1 then (0 ≤ c.2.1 ∧ c.2.1 ≤ g - 1) ∧ 0 ≤ c.2.2 ∧ c.2.2 ≤ g - 1
  else if c.1 = 2 then (0 ≤ c.2.1 ∧ c.2.1 ≤ g) ∧ c.2.2 = 0
  else if c.1 = 3 then (1 ≤ c.2.1 ∧ c.2.1 ≤ g) ∧ c.2.2 = 0
  else if c.1 = 4 then (0 ≤ c.2.1 ∧ c.2.1 ≤ g - 1) ∧ 0 ≤ c.2.2 ∧ c.2.2 ≤ 1
  else c.1 = 5 ∧ (1 ≤ c.2.1 ∧ c.2.1 ≤ 6) ∧ c.2.2 = 0
instance (g : Int) (c : Clu) : Decidable (IsClu g c) := by unfold IsClu; infer_instance
def PzN (g : Int) : Prop := 1 ≤ g ∧ g ≤ 5
instance (g : Int) : Decidable (PzN g) := inferInstanceAs (Decidable (_ ∧ _))
def IsPz (g : Int) (C : List Clu) : Prop := PzN g ∧ C.length ≤ 6 ∧ ∀ c ∈ C, IsClu g c
instance (g : Int) (C : List Clu) : Decidable (IsPz g C) := inferInstanceAs (Decidable (_ ∧ _ ∧ _))
end Go.Am
namespace Go.Am
variable {P : Program} {s : AS} {K : AS → Prop} {d : Option Nat}
theorem pl_ren (f : Nat → Nat) : ∀ {cs : List AV}, cs.all plainV = true → renL f cs = cs
  | [], _ => rfl
  | x :: l, h => by
    rw [List.all_cons, Bool.and_eq_true] at h
    have hl := pl_ren f h.2
    cases x <;> first | (simp [plainV] at h; done) | (simp only [renL, renV, hl])
theorem pl_own (q : Bool) : ∀ {cs : List AV}, cs.all plainV = true → ownL q cs = true
  | [], _ => rfl
  | x :: l, h => by
    rw [List.all_cons, Bool.and_eq_true] at h
    have hl := pl_own q h.2
    cases x <;> first | (simp [plainV] at h; done) | (simp only [ownL, ownV, hl, Bool.and_self])
theorem pl_read : ∀ {cs : List AV}, cs.all plainV = true → readL cs = true
  | [], _ => rfl
  | x :: l, h => by
    rw [List.all_cons, Bool.and_eq_true] at h
    have hl := pl_read h.2
    cases x <;> first | (simp [plainV] at h; done) | (simp only [readL, readV, hl, Bool.and_self])
theorem own_roZ {w w' : World} {z : Nat} {cs : List AV} {n : Nat} {v : Value} (hpl : cs.all plainV = true) (h : SimV (.ro true z cs n) (fresh w w') v) :
    ∃ bo : Option Nat, (∀ b, bo = some b → w.heap.size ≤ b) ∧ SimV (.sl nbase z 0 n) (ctxX w w' (fun r => if r = nbase then bo else none) (look (oneH cs))) v ∧ Regs (ctxX w w' (fun r => if r = nbase then bo else none) (look (oneH cs))) (look (oneH cs)) := by
  have hl : ∀ r c, look (oneH cs) r = some c → r = nbase ∧ c = (true, cs) := by
    intro r c hc
    have := look_mem hc
    rw [List.mem_singleton] at this
    exact ⟨congrArg Prod.fst this, congrArg Prod.snd this⟩
  simp only [SimV] at h
  rcases h with ⟨rfl, rfl, a, c, rfl, h⟩ | ⟨b, o, cap, cur, e, fz, rfl, h1, h2, h3, h4, h5, h6⟩
  · obtain ⟨rfl, rfl⟩ := h trivial
    refine ⟨none, by simp, ?_, ?_⟩
    · simp only [SimV]
      exact ⟨rfl, by simp [ctxX, look], .inl ⟨by simp [ctxX], by simp⟩⟩
    · intro r c hc
      obtain ⟨rfl, rfl⟩ := hl r c hc
      exact .inl ⟨by simp [ctxX], rfl⟩
  · obtain ⟨k1, rfl, rfl, k4, k5⟩ := h5 trivial
    refine ⟨some b, fun b' hb => by cases hb; exact k1, ?_, ?_⟩
    · simp only [SimV]
      refine ⟨rfl, by simp [ctxX, look], .inr ⟨b, 0, cap, cur, e, by simp [ctxX], rfl, h1, .inl rfl, h4, k4, by omega⟩⟩
    · intro r c hc
      obtain ⟨rfl, rfl⟩ := hl r c hc
      refine .inr (.inl ⟨b, cur, e, by simp [ctxX], h1, ?_⟩)
      simp only [SimR, if_true]
      rw [List.drop_zero] at h6
      exact simL_allv hpl h6
theorem sp_ownAZ {f : FuncId} {asx : List AV} {x : Value} {z : Nat} {cs : List AV} {n : Nat} (hs : Sp P f asx (.agg [.v x, .ro true z cs n])) (hr : asx.all flatA = true) (hpl : cs.all plainV = true) :
    SpH P f asx (look []) (.agg [.v x, .sl nbase z 0 n]) (look (oneH cs)) := by
  intro w vs phi hg _ _ _ hsim hsz
  have hent : Entry w asx vs.toList := ⟨simL_flat (C := ctxE w phi (look [])) hr rfl (fun b hb => hb.1) hsim, by simpa using hsz⟩
  refine (hs w vs hg hent).mono fun e w' ⟨v, h1, hm, hv⟩ => ?_
  simp only [SimV] at hv
  obtain ⟨a, rfl, hsz2, hsl⟩ := hv
  obtain ⟨al⟩ := a
  match al with
  | [] => simp at hsz2
  | [_] => simp at hsz2
  | _ :: _ :: _ :: _ => simp at hsz2
  | [p, q] =>
    simp only [SimL, and_true] at hsl
    obtain ⟨hp, hq⟩ := hsl
    obtain ⟨bo, k1, k2, k3⟩ := own_roZ hpl hq
    refine ⟨_, fun r => if r = nbase then bo else none, h1, hm.os, hm.tape, hm.output, hm.size, fun r hr => by simp [look] at hr, fun b hb _ => hm.block b hb, fun b cur e f hb => ⟨cur, (hm.block b (lt_of_get hb)).trans hb, rfl⟩, inj_one, ?_, k3, ?_⟩
    · intro r b _ _ hb
      dsimp only at hb
      split at hb
      · exact k1 b hb
      · cases hb
    · simp only [SimV]
      refine ⟨#[p, q], rfl, rfl, ?_⟩
      simp only [SimL, and_true]
      exact ⟨by simpa only [SimV] using hp, k2⟩
theorem m_newPz {f : FuncId} {args : List Opd} {asx : List AV} {g : Int} {C : List Clu} (q : Nat) (hs : Sp P f asx (newPz g C)) (hr : asx.all flatA = true) (hl : Lends s.hp (args.map s.ev) asx) (hq : s.hp q = none) (hqp : q < pbase)
    (k : K ((s.mem q (true, cls C)).put d (.agg [.i g, .sl q 3 0 C.length]))) : aop1 P true ⟨d, .call f args, none⟩ s K :=
  m_new1 q (sp_ownAZ hs hr (cls_plain C)) hl hq hqp (fun g => pl_ren g (cls_plain C)) (pl_own _ (cls_plain C)) rfl k
/-- A call that writes the clues of a struct. -/
theorem m_markPz {f : FuncId} {args : List Opd} {g : Int} {n : Nat} {x y : Value} {C M : List Clu} (q : Nat) (hs : SpH P f [.agg [.i g, .sl pbase 3 0 n], .v x] (look (lenH (cls C))) (.v y) (look (lenH (cls M)))) (ha : args.map s.ev = [.agg [.i g, .sl q 3 0 n], .v x])
    (hq : s.hp q = some (true, cls C)) (k : K ((s.mem q (true, cls M)).put d (.v y))) : aop1 P true ⟨d, .call f args, none⟩ s K := by
  have hin : look (lenH (cls C)) pbase = some (true, cls C) := by simp [look]
  have hout : look (lenH (cls M)) pbase = some (true, cls M) := by simp [look]
  refine m_callh (hp' := (s.mem q (true, cls M)).hp) (fun r => if r = pbase then q else r) hs ?_ ⟨fun r c hc => ?_, fun r r' h1 h2 _ => ?_, fun r hr => ?_, fun r hr hn => ?_, fun r c hc => ?_, fun q' hq' => ?_, fun r c hc => ?_, fun r c hc => ?_, rfl⟩ k
  · rw [ha]
    have e : [AV.agg [.i g, .sl q 3 0 n], AV.v x] = renL (fun r => if r = pbase then q else r) [.agg [.i g, .sl pbase 3 0 n], .v x] := by simp [renL, renV]
    rw [e]
    refine lendsH_ren (fun r c hc => ?_) rfl ?_
    · obtain ⟨rfl, rfl⟩ := look_len hc
      rw [if_pos rfl, hq]
      rfl
    · simp [refsL, refsV, look]
  · obtain ⟨rfl, rfl⟩ := look_len hc
    rw [if_pos rfl, hq]
    show _ = some (true, renL _ (cls C))
    rw [pl_ren _ (cls_plain C)]
  · rw [look_len_is h1, look_len_is h2]
  · rw [look_len_is hr, hout]
    rfl
  · rw [look_len_is hr, hin] at hn
    cases hn
  · obtain ⟨rfl, rfl⟩ := look_len hc
    rw [if_pos rfl]
    show (if q = q then some (true, cls M) else s.hp q) = some (true, renL _ (cls M))
    rw [if_pos rfl, pl_ren _ (cls_plain M)]
  · have hne : q' ≠ q := fun e => by
      refine hq' pbase (by rw [hout]; rfl) ?_
      rw [if_pos rfl]
      exact e.symm
    exact hp_mem_ne hne
  · obtain ⟨rfl, rfl⟩ := look_len hc
    exact ⟨pl_own _ (cls_plain C), refsL_plain (cls_plain C)⟩
  · obtain ⟨rfl, rfl⟩ := look_len hc
    exact pl_own _ (cls_plain M)
theorem outs_clus {s : AS} {r n : Nat} {cs : List AV} {C : List Clu} (hr : s.hp r = some (true, cs)) (e : cs = cls C) (hl : n = C.length) : Outs s (.sl r 3 0 n) (.ro true 3 (cls C) C.length) := by
  subst e; subst hl
  exact outs_sl hr (by rw [cls_len]) (cls_plain _)
theorem pzl_flat (g : Int) (C : List Clu) : flatA (pzl g C) = true := by
  show (readV (AV.i g) && (readV (.ro false 3 (cls C) C.length) && true)) = true
  simp [readV, pl_read (cls_plain C)]
/-- A region of clues of the call's own is read asx clues. -/
theorem lend_clus {hp : Hp} {r n : Nat} {C : List Clu} (hr : hp r = some (true, cls C)) (hn : n = C.length) : Lend hp (.sl r 3 0 n) (.ro false 3 (cls C) C.length) := by
  subst hn
  have h := lend_sl (z := 3) (off := 0) (n := C.length) hr (by rw [cls_len]; omega) (cls_plain C)
  have e : ((cls C).drop 0).take (C.length * 3) = cls C := by rw [List.drop_zero]; exact List.take_of_length_le (by rw [cls_len]; omega)
  rw [e] at h
  exact h
theorem lend_pzs {hp : Hp} {g : Int} {r n : Nat} {C : List Clu} (hr : hp r = some (true, cls C)) (hn : n = C.length) : Lend hp (.agg [.i g, .sl r 3 0 n]) (pzl g C) :=
  lend_aggs (lends_cons lend_v (lends_cons (lend_clus hr hn) lends_nil))
theorem cls_put {C : List Clu} {k : Nat} (c : Clu) (h : k < C.length) : (cls C).take (k * 3) ++ cC c ++ (cls C).drop (k * 3 + 3) = cls (C.set k c) := by
  rw [cls_take, show k * 3 + 3 = (k + 1) * 3 by omega, cls_drop, List.set_eq_take_append_cons_drop, if_pos h, cls_app]
  show cls (C.take k) ++ cC c ++ cls (C.drop (k + 1)) = cls (C.take k) ++ (cC c ++ cls (C.drop (k + 1)))
  rw [List.append_assoc]
theorem cls_rep (n : Nat) : (List.replicate n ([.int .i64 0, .int .i64 0, .int .i64 0].map AV.v)).flatten = cls (List.replicate n (0, 0, 0)) := by
  induction n with
  | zero => rfl
  | succ n ih =>
    rw [List.replicate_succ, List.flatten_cons, ih, List.replicate_succ]
    rfl
theorem m_stClu {own : Bool} {x y : Opd} {r k : Nat} {M M' : List Clu} {c1 c2 c3 : Int} (hx : s.ev x = .pt r (0 + ((k : Nat) : Int).toNat * 3)) (hr : s.hp r = some (true, cls M)) (hy : s.ev y = .agg [.i c1, .i c2, .i c3]) (h : k < M.length) (e : M.set k (c1, c2, c3) = M') (kk : K (s.mem r (true, cls M'))) :
    aop1 P own ⟨d, .st 3 x y, none⟩ s K := by
  rw [Int.toNat_natCast, Nat.zero_add] at hx
  refine ⟨r, k * 3, true, cls M, hx, hr, .inr ⟨_, hy, rfl, by rw [cls_len]; omega, rfl, ?_⟩⟩
  have := cls_put (C := M) (k := k) (c1, c2, c3) h
  have e2 : (cls M).take (k * 3) ++ [AV.i c1, .i c2, .i c3] ++ (cls M).drop (k * 3 + 3) = cls M' := by rw [← e]; exact this
  rw [e2]
  exact kk
end Go.Am
namespace Go.Proofs.Ytpohldecllkjbaa
open Go.Am
def ac3 : ACode := (.seq (.ops [⟨(some 3), (.box 3 (.t 1)), none⟩, ⟨(some 4), (.mov (.c (.bool false))), none⟩]) (.seq (.ops [⟨(some 7), (.mov (.t 0)), none⟩, ⟨(some 8), (.ld (some 3) (.t 3)), none⟩, ⟨(some 9), (.call 16 [(.t 8)]), none⟩, ⟨(some 10), (.call 15 [(.t 7), (.t 9)]), none⟩, ⟨(some 5), (.mov (.t 10)), none⟩]) (.seq (.ops [⟨(some 11), (.mov (.t 0)), none⟩, ⟨(some 12), (.ld (some 3) (.t 3)), none⟩, ⟨(some 13), (.call 16 [(.t 12)]), none⟩, ⟨(some 14), (.call 17 [(.t 11), (.t 13)]), none⟩, ⟨(some 6), (.mov (.t 14)), none⟩]) (.seq (.seq (.ops [⟨(some 15), (.mov (.t 6)), none⟩, ⟨(some 16), (.mov (.t 5)), none⟩, ⟨(some 17), (.beq true (.t 15) (.t 16)), none⟩]) (.cond (.t 17) (.seq (.ops [⟨(some 4), (.mov (.c (.bool false))), none⟩]) .ret) .skip)) (.seq (.ops [⟨(some 4), (.mov (.c (.bool true))), none⟩]) .ret)))))
theorem cc3 : ccode Try.prog (min Try.f3.ntmps pbase) (Try.f3.body.getD .skip) = some ac3 := by kernel_rfl
def ac4 : ACode := (.seq (.ops [⟨(some 1), (.box 2 (.t 0)), none⟩, ⟨(some 2), (.mov (.c (.bool false))), none⟩]) (.seq (.ops [⟨(some 3), (.mov (.c (.int .i64 1048576))), none⟩]) (.seq (.ops [⟨(some 7), (.ld (some 2) (.t 1)), none⟩, ⟨(some 8), (.mov (.t 3)), none⟩, ⟨(some 9), (.call 18 [(.t 7), (.t 8)]), none⟩, ⟨(some 3), (.mov (.t 9)), none⟩]) (.seq (.seq (.ops [⟨(some 10), (.mov (.t 3)), none⟩, ⟨(some 11), (.bin .lss (.t 10) (.c (.int .i64 0))), none⟩]) (.cond (.t 11) (.seq (.ops [⟨(some 2), (.mov (.c (.bool true))), none⟩]) .ret) .skip)) (.seq (.ops [⟨(some 12), (.ld (some 2) (.t 1)), none⟩, ⟨(some 13), (.call 20 [(.t 12)]), none⟩, ⟨(some 14), (.call 19 [(.t 13)]), none⟩, ⟨(some 4), (.mov (.t 14)), none⟩]) (.seq (.ops [⟨(some 15), (.ld (some 2) (.t 1)), none⟩, ⟨(some 16), (.call 20 [(.t 15)]), none⟩, ⟨(some 5), (.alloc [(.int .i64 0), (.slice none 0 0)]), none⟩, ⟨none, (.st 2 (.t 5) (.t 16)), none⟩]) (.seq (.ops [⟨(some 17), (.ld (some 2) (.t 5)), none⟩, ⟨(some 18), (.call 21 [(.t 17)]), none⟩, ⟨(some 6), (.mov (.t 18)), none⟩]) (.seq (.seq (.ops [⟨(some 19), (.mov (.t 6)), none⟩, ⟨(some 20), (.mov (.t 4)), none⟩, ⟨(some 21), (.beq true (.t 19) (.t 20)), none⟩]) (.cond (.t 21) (.seq (.ops [⟨(some 2), (.mov (.c (.bool false))), none⟩]) .ret) .skip)) (.seq (.seq (.tree (.take ⟨(some 22), (.ld (some 2) (.t 5)), none⟩ (.take ⟨(some 23), (.ld (some 2) (.t 1)), none⟩ (.take ⟨(some 24), (.call 20 [(.t 23)]), none⟩ (.take ⟨(some 25), (.call 22 [(.t 22), (.t 24)]), none⟩ (.take ⟨(some 26), (.not (.t 25)), none⟩ .done)))))) (.cond (.t 26) (.seq (.ops [⟨(some 2), (.mov (.c (.bool false))), none⟩]) .ret) .skip)) (.seq (.ops [⟨(some 2), (.mov (.c (.bool true))), none⟩]) .ret))))))))))
theorem cc4 : ccode Try.prog (min Try.f4.ntmps pbase) (Try.f4.body.getD .skip) = some ac4 := by kernel_rfl
def ac5 : ACode := (.seq (.ops [⟨(some 1), (.box 2 (.t 0)), none⟩, ⟨(some 2), (.mov (.c (.bool false))), none⟩]) (.seq (.ops [⟨(some 3), (.mov (.c (.int .i64 1048576))), none⟩]) (.seq (.ops [⟨(some 9), (.ld (some 2) (.t 1)), none⟩, ⟨(some 10), (.mov (.t 3)), none⟩, ⟨(some 11), (.call 18 [(.t 9), (.t 10)]), none⟩, ⟨(some 3), (.mov (.t 11)), none⟩]) (.seq (.seq (.ops [⟨(some 12), (.mov (.t 3)), none⟩, ⟨(some 13), (.bin .lss (.t 12) (.c (.int .i64 0))), none⟩]) (.cond (.t 13) (.seq (.ops [⟨(some 2), (.mov (.c (.bool true))), none⟩]) .ret) .skip)) (.seq (.ops [⟨(some 15), (.ld (some 2) (.t 1)), none⟩, ⟨(some 16), (.call 20 [(.t 15)]), none⟩, ⟨(some 17), (.call 23 [(.t 16)]), none⟩, ⟨(some 14), (.mov (.t 17)), none⟩, ⟨(some 18), (.ext (.t 14) 0), none⟩, ⟨(some 19), (.ext (.t 14) 1), none⟩, ⟨(some 4), (.mov (.t 18)), none⟩, ⟨(some 5), (.mov (.t 19)), none⟩]) (.seq (.ops [⟨(some 20), (.ld (some 2) (.t 1)), none⟩, ⟨(some 21), (.call 20 [(.t 20)]), none⟩, ⟨(some 6), (.alloc [(.int .i64 0), (.slice none 0 0)]), none⟩, ⟨none, (.st 2 (.t 6) (.t 21)), none⟩]) (.seq (.ops [⟨(some 23), (.ld (some 2) (.t 6)), none⟩, ⟨(some 24), (.call 24 [(.t 23)]), none⟩, ⟨(some 22), (.mov (.t 24)), none⟩, ⟨(some 25), (.ext (.t 22) 0), none⟩, ⟨(some 26), (.ext (.t 22) 1), none⟩, ⟨(some 7), (.mov (.t 25)), none⟩, ⟨(some 8), (.mov (.t 26)), none⟩]) (.seq (.seq (.ops [⟨(some 27), (.mov (.t 7)), none⟩, ⟨(some 28), (.mov (.t 4)), none⟩, ⟨(some 29), (.bin .neq (.t 27) (.t 28)), none⟩, ⟨(some 30), (.mov (.t 29)), none⟩, ⟨(some 31), (.mov (.t 8)), (some (30, false))⟩, ⟨(some 32), (.mov (.t 5)), (some (30, false))⟩, ⟨(some 33), (.beq true (.t 31) (.t 32)), (some (30, false))⟩, ⟨(some 34), (.pick (.t 30) (.c (.bool true)) (.t 33)), none⟩]) (.cond (.t 34) (.seq (.ops [⟨(some 2), (.mov (.c (.bool false))), none⟩]) .ret) .skip)) (.seq (.seq (.tree (.take ⟨(some 35), (.ld (some 2) (.t 6)), none⟩ (.take ⟨(some 36), (.ld (some 2) (.t 1)), none⟩ (.take ⟨(some 37), (.call 20 [(.t 36)]), none⟩ (.take ⟨(some 38), (.call 22 [(.t 35), (.t 37)]), none⟩ (.take ⟨(some 39), (.not (.t 38)), none⟩ .done)))))) (.cond (.t 39) (.seq (.ops [⟨(some 2), (.mov (.c (.bool false))), none⟩]) .ret) .skip)) (.seq (.ops [⟨(some 2), (.mov (.c (.bool true))), none⟩]) .ret))))))))))
theorem cc5 : ccode Try.prog (min Try.f5.ntmps pbase) (Try.f5.body.getD .skip) = some ac5 := by kernel_rfl
def ac6 : ACode := (.seq (.ops [⟨(some 1), (.box 2 (.t 0)), none⟩, ⟨(some 2), (.mov (.c (.bool false))), none⟩]) (.seq (.ops [⟨(some 3), (.mov (.c (.int .i64 1048576))), none⟩]) (.seq (.ops [⟨(some 14), (.ld (some 2) (.t 1)), none⟩, ⟨(some 15), (.mov (.t 3)), none⟩, ⟨(some 16), (.call 18 [(.t 14), (.t 15)]), none⟩, ⟨(some 3), (.mov (.t 16)), none⟩]) (.seq (.seq (.ops [⟨(some 17), (.mov (.t 3)), none⟩, ⟨(some 18), (.bin .lss (.t 17) (.c (.int .i64 0))), none⟩]) (.cond (.t 18) (.seq (.ops [⟨(some 2), (.mov (.c (.bool true))), none⟩]) .ret) .skip)) (.seq (.ops [⟨(some 20), (.ld (some 2) (.t 1)), none⟩, ⟨(some 21), (.call 20 [(.t 20)]), none⟩, ⟨(some 22), (.call 25 [(.t 21)]), none⟩, ⟨(some 19), (.mov (.t 22)), none⟩, ⟨(some 23), (.ext (.t 19) 0), none⟩, ⟨(some 24), (.ext (.t 19) 1), none⟩, ⟨(some 4), (.mov (.t 23)), none⟩, ⟨(some 5), (.mov (.t 24)), none⟩]) (.seq (.ops [⟨(some 25), (.ld (some 2) (.t 1)), none⟩, ⟨(some 26), (.call 20 [(.t 25)]), none⟩, ⟨(some 6), (.alloc [(.int .i64 0), (.slice none 0 0)]), none⟩, ⟨none, (.st 2 (.t 6) (.t 26)), none⟩]) (.seq (.ops [⟨(some 28), (.ld (some 2) (.t 6)), none⟩, ⟨(some 29), (.call 26 [(.t 28)]), none⟩, ⟨(some 27), (.mov (.t 29)), none⟩, ⟨(some 30), (.ext (.t 27) 0), none⟩, ⟨(some 31), (.ext (.t 27) 1), none⟩, ⟨(some 7), (.mov (.t 30)), none⟩, ⟨(some 8), (.mov (.t 31)), none⟩]) (.seq (.seq (.ops [⟨(some 32), (.mov (.t 7)), none⟩, ⟨(some 33), (.mov (.t 4)), none⟩, ⟨(some 34), (.call 27 [(.t 32), (.t 33)]), none⟩, ⟨(some 35), (.not (.t 34)), none⟩, ⟨(some 36), (.mov (.t 35)), none⟩, ⟨(some 37), (.mov (.t 8)), (some (36, false))⟩, ⟨(some 38), (.mov (.t 5)), (some (36, false))⟩, ⟨(some 39), (.beq true (.t 37) (.t 38)), (some (36, false))⟩, ⟨(some 40), (.pick (.t 36) (.c (.bool true)) (.t 39)), none⟩]) (.cond (.t 40) (.seq (.ops [⟨(some 2), (.mov (.c (.bool false))), none⟩]) .ret) .skip)) (.seq (.seq (.tree (.take ⟨(some 41), (.ld (some 2) (.t 6)), none⟩ (.take ⟨(some 42), (.ld (some 2) (.t 1)), none⟩ (.take ⟨(some 43), (.call 20 [(.t 42)]), none⟩ (.take ⟨(some 44), (.call 22 [(.t 41), (.t 43)]), none⟩ (.take ⟨(some 45), (.not (.t 44)), none⟩ .done)))))) (.cond (.t 45) (.seq (.ops [⟨(some 2), (.mov (.c (.bool false))), none⟩]) .ret) .skip)) (.seq (.ops [⟨(some 9), (.mov (.c (.int .i64 1))), none⟩]) (.seq (.ops [⟨(some 46), (.ld (some 2) (.t 6)), none⟩, ⟨(some 47), (.mov (.t 9)), none⟩, ⟨(some 48), (.call 28 [(.t 46), (.t 47)]), none⟩, ⟨(some 9), (.mov (.t 48)), none⟩]) (.seq (.seq (.ops [⟨(some 49), (.mov (.t 9)), none⟩, ⟨(some 50), (.bin .lss (.t 49) (.c (.int .i64 0))), none⟩, ⟨(some 51), (.mov (.t 50)), none⟩, ⟨(some 52), (.mov (.t 7)), (some (51, false))⟩, ⟨(some 53), (.mov (.t 4)), (some (51, false))⟩, ⟨(some 54), (.call 27 [(.t 52), (.t 53)]), (some (51, false))⟩, ⟨(some 55), (.not (.t 54)), (some (51, false))⟩, ⟨(some 56), (.pick (.t 51) (.c (.bool true)) (.t 55)), none⟩, ⟨(some 57), (.mov (.t 56)), none⟩, ⟨(some 58), (.mov (.t 8)), (some (57, false))⟩, ⟨(some 59), (.mov (.t 5)), (some (57, false))⟩, ⟨(some 60), (.beq true (.t 58) (.t 59)), (some (57, false))⟩, ⟨(some 61), (.pick (.t 57) (.c (.bool true)) (.t 60)), none⟩]) (.cond (.t 61) (.seq (.ops [⟨(some 2), (.mov (.c (.bool false))), none⟩]) .ret) .skip)) (.seq (.ops [⟨(some 10), (.mov (.c (.int .i64 1))), none⟩]) (.seq (.ops [⟨(some 62), (.mov (.t 7)), none⟩, ⟨(some 63), (.mov (.t 10)), none⟩, ⟨(some 64), (.call 29 [(.t 62), (.t 63)]), none⟩, ⟨(some 10), (.mov (.t 64)), none⟩]) (.seq (.ops [⟨(some 11), (.mov (.c (.int .i64 1))), none⟩]) (.seq (.ops [⟨(some 65), (.mov (.t 7)), none⟩, ⟨(some 66), (.mov (.t 11)), none⟩, ⟨(some 67), (.call 30 [(.t 65), (.t 66)]), none⟩, ⟨(some 11), (.mov (.t 67)), none⟩]) (.seq (.seq (.ops [⟨(some 68), (.mov (.t 11)), none⟩, ⟨(some 69), (.bin .lss (.t 68) (.c (.int .i64 0))), none⟩]) (.cond (.t 69) (.seq (.ops [⟨(some 2), (.mov (.c (.bool false))), none⟩]) .ret) .skip)) (.seq (.seq (.ops [⟨(some 70), (.mov (.t 11)), none⟩, ⟨(some 71), (.mov (.t 10)), none⟩, ⟨(some 72), (.bin .neq (.t 70) (.t 71)), none⟩]) (.cond (.t 72) (.seq (.ops [⟨(some 2), (.mov (.c (.bool false))), none⟩]) .ret) .skip)) (.seq (.ops [⟨(some 74), (.ld (some 2) (.t 1)), none⟩, ⟨(some 75), (.call 20 [(.t 74)]), none⟩, ⟨(some 76), (.call 26 [(.t 75)]), none⟩, ⟨(some 73), (.mov (.t 76)), none⟩, ⟨(some 77), (.ext (.t 73) 0), none⟩, ⟨(some 78), (.ext (.t 73) 1), none⟩, ⟨(some 12), (.mov (.t 77)), none⟩, ⟨(some 13), (.mov (.t 78)), none⟩]) (.seq (.seq (.ops [⟨(some 79), (.mov (.t 12)), none⟩, ⟨(some 80), (.mov (.t 4)), none⟩, ⟨(some 81), (.call 27 [(.t 79), (.t 80)]), none⟩, ⟨(some 82), (.not (.t 81)), none⟩, ⟨(some 83), (.mov (.t 82)), none⟩, ⟨(some 84), (.mov (.t 13)), (some (83, false))⟩, ⟨(some 85), (.mov (.t 5)), (some (83, false))⟩, ⟨(some 86), (.beq true (.t 84) (.t 85)), (some (83, false))⟩, ⟨(some 87), (.pick (.t 83) (.c (.bool true)) (.t 86)), none⟩]) (.cond (.t 87) (.seq (.ops [⟨(some 2), (.mov (.c (.bool false))), none⟩]) .ret) .skip)) (.seq (.ops [⟨(some 11), (.mov (.c (.int .i64 1))), none⟩]) (.seq (.ops [⟨(some 88), (.mov (.t 7)), none⟩, ⟨(some 89), (.mov (.t 11)), none⟩, ⟨(some 90), (.call 30 [(.t 88), (.t 89)]), none⟩, ⟨(some 11), (.mov (.t 90)), none⟩]) (.seq (.seq (.ops [⟨(some 91), (.mov (.t 11)), none⟩, ⟨(some 92), (.bin .lss (.t 91) (.c (.int .i64 0))), none⟩]) (.cond (.t 92) (.seq (.ops [⟨(some 2), (.mov (.c (.bool false))), none⟩]) .ret) .skip)) (.seq (.seq (.ops [⟨(some 93), (.mov (.t 11)), none⟩, ⟨(some 94), (.mov (.t 10)), none⟩, ⟨(some 95), (.bin .neq (.t 93) (.t 94)), none⟩]) (.cond (.t 95) (.seq (.ops [⟨(some 2), (.mov (.c (.bool false))), none⟩]) .ret) .skip)) (.seq (.ops [⟨(some 2), (.mov (.c (.bool true))), none⟩]) .ret)))))))))))))))))))))))))
theorem cc6 : ccode Try.prog (min Try.f6.ntmps pbase) (Try.f6.body.getD .skip) = some ac6 := by kernel_rfl
def ac7 : ACode := (.seq (.ops [⟨(some 1), (.box 2 (.t 0)), none⟩, ⟨(some 2), (.mov (.c (.bool false))), none⟩]) (.seq (.ops [⟨(some 3), (.mov (.c (.int .i64 1048576))), none⟩]) (.seq (.ops [⟨(some 14), (.ld (some 2) (.t 1)), none⟩, ⟨(some 15), (.mov (.t 3)), none⟩, ⟨(some 16), (.call 18 [(.t 14), (.t 15)]), none⟩, ⟨(some 3), (.mov (.t 16)), none⟩]) (.seq (.seq (.ops [⟨(some 17), (.mov (.t 3)), none⟩, ⟨(some 18), (.bin .lss (.t 17) (.c (.int .i64 0))), none⟩]) (.cond (.t 18) (.seq (.ops [⟨(some 2), (.mov (.c (.bool true))), none⟩]) .ret) .skip)) (.seq (.ops [⟨(some 20), (.ld (some 2) (.t 1)), none⟩, ⟨(some 21), (.call 20 [(.t 20)]), none⟩, ⟨(some 22), (.call 31 [(.t 21)]), none⟩, ⟨(some 19), (.mov (.t 22)), none⟩, ⟨(some 23), (.ext (.t 19) 0), none⟩, ⟨(some 24), (.ext (.t 19) 1), none⟩, ⟨(some 4), (.mov (.t 23)), none⟩, ⟨(some 5), (.mov (.t 24)), none⟩]) (.seq (.ops [⟨(some 25), (.ld (some 2) (.t 1)), none⟩, ⟨(some 26), (.call 20 [(.t 25)]), none⟩, ⟨(some 6), (.alloc [(.int .i64 0), (.slice none 0 0)]), none⟩, ⟨none, (.st 2 (.t 6) (.t 26)), none⟩]) (.seq (.ops [⟨(some 28), (.ld (some 2) (.t 6)), none⟩, ⟨(some 29), (.call 32 [(.t 28)]), none⟩, ⟨(some 27), (.mov (.t 29)), none⟩, ⟨(some 30), (.ext (.t 27) 0), none⟩, ⟨(some 31), (.ext (.t 27) 1), none⟩, ⟨(some 7), (.mov (.t 30)), none⟩, ⟨(some 8), (.mov (.t 31)), none⟩]) (.seq (.seq (.ops [⟨(some 32), (.mov (.t 7)), none⟩, ⟨(some 33), (.mov (.t 4)), none⟩, ⟨(some 34), (.call 33 [(.t 32), (.t 33)]), none⟩, ⟨(some 35), (.not (.t 34)), none⟩, ⟨(some 36), (.mov (.t 35)), none⟩, ⟨(some 37), (.mov (.t 8)), (some (36, false))⟩, ⟨(some 38), (.mov (.t 5)), (some (36, false))⟩, ⟨(some 39), (.beq true (.t 37) (.t 38)), (some (36, false))⟩, ⟨(some 40), (.pick (.t 36) (.c (.bool true)) (.t 39)), none⟩]) (.cond (.t 40) (.seq (.ops [⟨(some 2), (.mov (.c (.bool false))), none⟩]) .ret) .skip)) (.seq (.seq (.tree (.take ⟨(some 41), (.ld (some 2) (.t 6)), none⟩ (.take ⟨(some 42), (.ld (some 2) (.t 1)), none⟩ (.take ⟨(some 43), (.call 20 [(.t 42)]), none⟩ (.take ⟨(some 44), (.call 22 [(.t 41), (.t 43)]), none⟩ (.take ⟨(some 45), (.not (.t 44)), none⟩ .done)))))) (.cond (.t 45) (.seq (.ops [⟨(some 2), (.mov (.c (.bool false))), none⟩]) .ret) .skip)) (.seq (.ops [⟨(some 9), (.mov (.c (.int .i64 1))), none⟩]) (.seq (.ops [⟨(some 46), (.ld (some 2) (.t 6)), none⟩, ⟨(some 47), (.mov (.t 9)), none⟩, ⟨(some 48), (.call 28 [(.t 46), (.t 47)]), none⟩, ⟨(some 9), (.mov (.t 48)), none⟩]) (.seq (.seq (.ops [⟨(some 49), (.mov (.t 9)), none⟩, ⟨(some 50), (.bin .lss (.t 49) (.c (.int .i64 0))), none⟩, ⟨(some 51), (.mov (.t 50)), none⟩, ⟨(some 52), (.mov (.t 7)), (some (51, false))⟩, ⟨(some 53), (.mov (.t 4)), (some (51, false))⟩, ⟨(some 54), (.call 33 [(.t 52), (.t 53)]), (some (51, false))⟩, ⟨(some 55), (.not (.t 54)), (some (51, false))⟩, ⟨(some 56), (.pick (.t 51) (.c (.bool true)) (.t 55)), none⟩, ⟨(some 57), (.mov (.t 56)), none⟩, ⟨(some 58), (.mov (.t 8)), (some (57, false))⟩, ⟨(some 59), (.mov (.t 5)), (some (57, false))⟩, ⟨(some 60), (.beq true (.t 58) (.t 59)), (some (57, false))⟩, ⟨(some 61), (.pick (.t 57) (.c (.bool true)) (.t 60)), none⟩]) (.cond (.t 61) (.seq (.ops [⟨(some 2), (.mov (.c (.bool false))), none⟩]) .ret) .skip)) (.seq (.ops [⟨(some 10), (.mov (.c (.int .i64 1))), none⟩]) (.seq (.ops [⟨(some 62), (.mov (.t 7)), none⟩, ⟨(some 63), (.mov (.t 10)), none⟩, ⟨(some 64), (.call 34 [(.t 62), (.t 63)]), none⟩, ⟨(some 10), (.mov (.t 64)), none⟩]) (.seq (.ops [⟨(some 11), (.mov (.c (.int .i64 1))), none⟩]) (.seq (.ops [⟨(some 65), (.mov (.t 7)), none⟩, ⟨(some 66), (.mov (.t 11)), none⟩, ⟨(some 67), (.call 35 [(.t 65), (.t 66)]), none⟩, ⟨(some 11), (.mov (.t 67)), none⟩]) (.seq (.seq (.ops [⟨(some 68), (.mov (.t 11)), none⟩, ⟨(some 69), (.bin .lss (.t 68) (.c (.int .i64 0))), none⟩]) (.cond (.t 69) (.seq (.ops [⟨(some 2), (.mov (.c (.bool false))), none⟩]) .ret) .skip)) (.seq (.seq (.ops [⟨(some 70), (.mov (.t 11)), none⟩, ⟨(some 71), (.mov (.t 10)), none⟩, ⟨(some 72), (.bin .neq (.t 70) (.t 71)), none⟩]) (.cond (.t 72) (.seq (.ops [⟨(some 2), (.mov (.c (.bool false))), none⟩]) .ret) .skip)) (.seq (.ops [⟨(some 74), (.ld (some 2) (.t 1)), none⟩, ⟨(some 75), (.call 20 [(.t 74)]), none⟩, ⟨(some 76), (.call 32 [(.t 75)]), none⟩, ⟨(some 73), (.mov (.t 76)), none⟩, ⟨(some 77), (.ext (.t 73) 0), none⟩, ⟨(some 78), (.ext (.t 73) 1), none⟩, ⟨(some 12), (.mov (.t 77)), none⟩, ⟨(some 13), (.mov (.t 78)), none⟩]) (.seq (.seq (.ops [⟨(some 79), (.mov (.t 12)), none⟩, ⟨(some 80), (.mov (.t 4)), none⟩, ⟨(some 81), (.call 33 [(.t 79), (.t 80)]), none⟩, ⟨(some 82), (.not (.t 81)), none⟩, ⟨(some 83), (.mov (.t 82)), none⟩, ⟨(some 84), (.mov (.t 13)), (some (83, false))⟩, ⟨(some 85), (.mov (.t 5)), (some (83, false))⟩, ⟨(some 86), (.beq true (.t 84) (.t 85)), (some (83, false))⟩, ⟨(some 87), (.pick (.t 83) (.c (.bool true)) (.t 86)), none⟩]) (.cond (.t 87) (.seq (.ops [⟨(some 2), (.mov (.c (.bool false))), none⟩]) .ret) .skip)) (.seq (.ops [⟨(some 11), (.mov (.c (.int .i64 1))), none⟩]) (.seq (.ops [⟨(some 88), (.mov (.t 7)), none⟩, ⟨(some 89), (.mov (.t 11)), none⟩, ⟨(some 90), (.call 35 [(.t 88), (.t 89)]), none⟩, ⟨(some 11), (.mov (.t 90)), none⟩]) (.seq (.seq (.ops [⟨(some 91), (.mov (.t 11)), none⟩, ⟨(some 92), (.bin .lss (.t 91) (.c (.int .i64 0))), none⟩]) (.cond (.t 92) (.seq (.ops [⟨(some 2), (.mov (.c (.bool false))), none⟩]) .ret) .skip)) (.seq (.seq (.ops [⟨(some 93), (.mov (.t 11)), none⟩, ⟨(some 94), (.mov (.t 10)), none⟩, ⟨(some 95), (.bin .neq (.t 93) (.t 94)), none⟩]) (.cond (.t 95) (.seq (.ops [⟨(some 2), (.mov (.c (.bool false))), none⟩]) .ret) .skip)) (.seq (.ops [⟨(some 2), (.mov (.c (.bool true))), none⟩]) .ret)))))))))))))))))))))))))
theorem cc7 : ccode Try.prog (min Try.f7.ntmps pbase) (Try.f7.body.getD .skip) = some ac7 := by kernel_rfl
def ac9 : ACode := (.seq (.ops [⟨(some 1), (.box 2 (.t 0)), none⟩, ⟨(some 2), (.mov (.c (.bool false))), none⟩]) (.seq (.ops [⟨(some 3), (.mov (.c (.int .i64 1048576))), none⟩]) (.seq (.ops [⟨(some 9), (.ld (some 2) (.t 1)), none⟩, ⟨(some 10), (.mov (.t 3)), none⟩, ⟨(some 11), (.call 18 [(.t 9), (.t 10)]), none⟩, ⟨(some 3), (.mov (.t 11)), none⟩]) (.seq (.seq (.ops [⟨(some 12), (.mov (.t 3)), none⟩, ⟨(some 13), (.bin .lss (.t 12) (.c (.int .i64 0))), none⟩]) (.cond (.t 13) (.seq (.ops [⟨(some 2), (.mov (.c (.bool true))), none⟩]) .ret) .skip)) (.seq (.ops [⟨(some 15), (.ld (some 2) (.t 1)), none⟩, ⟨(some 16), (.call 20 [(.t 15)]), none⟩, ⟨(some 17), (.call 38 [(.t 16)]), none⟩, ⟨(some 14), (.mov (.t 17)), none⟩, ⟨(some 18), (.ext (.t 14) 0), none⟩, ⟨(some 19), (.ext (.t 14) 1), none⟩, ⟨(some 4), (.mov (.t 18)), none⟩, ⟨(some 5), (.mov (.t 19)), none⟩]) (.seq (.ops [⟨(some 20), (.ld (some 2) (.t 1)), none⟩, ⟨(some 21), (.call 20 [(.t 20)]), none⟩, ⟨(some 6), (.alloc [(.int .i64 0), (.slice none 0 0)]), none⟩, ⟨none, (.st 2 (.t 6) (.t 21)), none⟩]) (.seq (.ops [⟨(some 23), (.ld (some 2) (.t 6)), none⟩, ⟨(some 24), (.call 39 [(.t 23)]), none⟩, ⟨(some 22), (.mov (.t 24)), none⟩, ⟨(some 25), (.ext (.t 22) 0), none⟩, ⟨(some 26), (.ext (.t 22) 1), none⟩, ⟨(some 7), (.mov (.t 25)), none⟩, ⟨(some 8), (.mov (.t 26)), none⟩]) (.seq (.seq (.ops [⟨(some 27), (.mov (.t 7)), none⟩, ⟨(some 28), (.mov (.t 4)), none⟩, ⟨(some 29), (.beq true (.t 27) (.t 28)), none⟩, ⟨(some 30), (.mov (.t 29)), none⟩, ⟨(some 31), (.mov (.t 8)), (some (30, false))⟩, ⟨(some 32), (.mov (.t 5)), (some (30, false))⟩, ⟨(some 33), (.beq true (.t 31) (.t 32)), (some (30, false))⟩, ⟨(some 34), (.pick (.t 30) (.c (.bool true)) (.t 33)), none⟩]) (.cond (.t 34) (.seq (.ops [⟨(some 2), (.mov (.c (.bool false))), none⟩]) .ret) .skip)) (.seq (.seq (.tree (.take ⟨(some 35), (.ld (some 2) (.t 6)), none⟩ (.take ⟨(some 36), (.ld (some 2) (.t 1)), none⟩ (.take ⟨(some 37), (.call 20 [(.t 36)]), none⟩ (.take ⟨(some 38), (.call 22 [(.t 35), (.t 37)]), none⟩ (.take ⟨(some 39), (.not (.t 38)), none⟩ .done)))))) (.cond (.t 39) (.seq (.ops [⟨(some 2), (.mov (.c (.bool false))), none⟩]) .ret) .skip)) (.seq (.ops [⟨(some 2), (.mov (.c (.bool true))), none⟩]) .ret))))))))))
theorem cc9 : ccode Try.prog (min Try.f9.ntmps pbase) (Try.f9.body.getD .skip) = some ac9 := by kernel_rfl
def ac12 : ACode := (.seq (.ops [⟨(some 1), (.box 2 (.t 0)), none⟩, ⟨(some 2), (.mov (.c (.bool false))), none⟩]) (.seq (.ops [⟨(some 3), (.mov (.c (.int .i64 1048576))), none⟩]) (.seq (.ops [⟨(some 14), (.ld (some 2) (.t 1)), none⟩, ⟨(some 15), (.mov (.t 3)), none⟩, ⟨(some 16), (.call 18 [(.t 14), (.t 15)]), none⟩, ⟨(some 3), (.mov (.t 16)), none⟩]) (.seq (.seq (.ops [⟨(some 17), (.mov (.t 3)), none⟩, ⟨(some 18), (.bin .lss (.t 17) (.c (.int .i64 0))), none⟩]) (.cond (.t 18) (.seq (.ops [⟨(some 2), (.mov (.c (.bool true))), none⟩]) .ret) .skip)) (.seq (.ops [⟨(some 20), (.ld (some 2) (.t 1)), none⟩, ⟨(some 21), (.call 20 [(.t 20)]), none⟩, ⟨(some 22), (.call 45 [(.t 21)]), none⟩, ⟨(some 19), (.mov (.t 22)), none⟩, ⟨(some 23), (.ext (.t 19) 0), none⟩, ⟨(some 24), (.ext (.t 19) 1), none⟩, ⟨(some 4), (.mov (.t 23)), none⟩, ⟨(some 5), (.mov (.t 24)), none⟩]) (.seq (.ops [⟨(some 25), (.ld (some 2) (.t 1)), none⟩, ⟨(some 26), (.call 20 [(.t 25)]), none⟩, ⟨(some 6), (.alloc [(.int .i64 0), (.slice none 0 0)]), none⟩, ⟨none, (.st 2 (.t 6) (.t 26)), none⟩]) (.seq (.ops [⟨(some 28), (.ld (some 2) (.t 6)), none⟩, ⟨(some 29), (.call 46 [(.t 28)]), none⟩, ⟨(some 27), (.mov (.t 29)), none⟩, ⟨(some 30), (.ext (.t 27) 0), none⟩, ⟨(some 31), (.ext (.t 27) 1), none⟩, ⟨(some 7), (.mov (.t 30)), none⟩, ⟨(some 8), (.mov (.t 31)), none⟩]) (.seq (.seq (.ops [⟨(some 32), (.mov (.t 7)), none⟩, ⟨(some 33), (.mov (.t 4)), none⟩, ⟨(some 34), (.call 33 [(.t 32), (.t 33)]), none⟩, ⟨(some 35), (.not (.t 34)), none⟩, ⟨(some 36), (.mov (.t 35)), none⟩, ⟨(some 37), (.mov (.t 8)), (some (36, false))⟩, ⟨(some 38), (.mov (.t 5)), (some (36, false))⟩, ⟨(some 39), (.beq true (.t 37) (.t 38)), (some (36, false))⟩, ⟨(some 40), (.pick (.t 36) (.c (.bool true)) (.t 39)), none⟩]) (.cond (.t 40) (.seq (.ops [⟨(some 2), (.mov (.c (.bool false))), none⟩]) .ret) .skip)) (.seq (.seq (.tree (.take ⟨(some 41), (.ld (some 2) (.t 6)), none⟩ (.take ⟨(some 42), (.ld (some 2) (.t 1)), none⟩ (.take ⟨(some 43), (.call 20 [(.t 42)]), none⟩ (.take ⟨(some 44), (.call 22 [(.t 41), (.t 43)]), none⟩ (.take ⟨(some 45), (.not (.t 44)), none⟩ .done)))))) (.cond (.t 45) (.seq (.ops [⟨(some 2), (.mov (.c (.bool false))), none⟩]) .ret) .skip)) (.seq (.ops [⟨(some 9), (.mov (.c (.int .i64 1))), none⟩]) (.seq (.ops [⟨(some 46), (.ld (some 2) (.t 6)), none⟩, ⟨(some 47), (.mov (.t 9)), none⟩, ⟨(some 48), (.call 28 [(.t 46), (.t 47)]), none⟩, ⟨(some 9), (.mov (.t 48)), none⟩]) (.seq (.seq (.ops [⟨(some 49), (.mov (.t 9)), none⟩, ⟨(some 50), (.bin .lss (.t 49) (.c (.int .i64 0))), none⟩, ⟨(some 51), (.mov (.t 50)), none⟩, ⟨(some 52), (.mov (.t 7)), (some (51, false))⟩, ⟨(some 53), (.mov (.t 4)), (some (51, false))⟩, ⟨(some 54), (.call 33 [(.t 52), (.t 53)]), (some (51, false))⟩, ⟨(some 55), (.not (.t 54)), (some (51, false))⟩, ⟨(some 56), (.pick (.t 51) (.c (.bool true)) (.t 55)), none⟩, ⟨(some 57), (.mov (.t 56)), none⟩, ⟨(some 58), (.mov (.t 8)), (some (57, false))⟩, ⟨(some 59), (.mov (.t 5)), (some (57, false))⟩, ⟨(some 60), (.beq true (.t 58) (.t 59)), (some (57, false))⟩, ⟨(some 61), (.pick (.t 57) (.c (.bool true)) (.t 60)), none⟩]) (.cond (.t 61) (.seq (.ops [⟨(some 2), (.mov (.c (.bool false))), none⟩]) .ret) .skip)) (.seq (.ops [⟨(some 10), (.mov (.c (.int .i64 1))), none⟩]) (.seq (.ops [⟨(some 62), (.mov (.t 7)), none⟩, ⟨(some 63), (.mov (.t 10)), none⟩, ⟨(some 64), (.call 34 [(.t 62), (.t 63)]), none⟩, ⟨(some 10), (.mov (.t 64)), none⟩]) (.seq (.ops [⟨(some 11), (.mov (.c (.int .i64 1))), none⟩]) (.seq (.ops [⟨(some 65), (.mov (.t 7)), none⟩, ⟨(some 66), (.mov (.t 11)), none⟩, ⟨(some 67), (.call 35 [(.t 65), (.t 66)]), none⟩, ⟨(some 11), (.mov (.t 67)), none⟩]) (.seq (.seq (.ops [⟨(some 68), (.mov (.t 11)), none⟩, ⟨(some 69), (.bin .lss (.t 68) (.c (.int .i64 0))), none⟩]) (.cond (.t 69) (.seq (.ops [⟨(some 2), (.mov (.c (.bool false))), none⟩]) .ret) .skip)) (.seq (.seq (.ops [⟨(some 70), (.mov (.t 11)), none⟩, ⟨(some 71), (.mov (.t 10)), none⟩, ⟨(some 72), (.bin .neq (.t 70) (.t 71)), none⟩]) (.cond (.t 72) (.seq (.ops [⟨(some 2), (.mov (.c (.bool false))), none⟩]) .ret) .skip)) (.seq (.ops [⟨(some 74), (.ld (some 2) (.t 1)), none⟩, ⟨(some 75), (.call 20 [(.t 74)]), none⟩, ⟨(some 76), (.call 46 [(.t 75)]), none⟩, ⟨(some 73), (.mov (.t 76)), none⟩, ⟨(some 77), (.ext (.t 73) 0), none⟩, ⟨(some 78), (.ext (.t 73) 1), none⟩, ⟨(some 12), (.mov (.t 77)), none⟩, ⟨(some 13), (.mov (.t 78)), none⟩]) (.seq (.seq (.ops [⟨(some 79), (.mov (.t 12)), none⟩, ⟨(some 80), (.mov (.t 4)), none⟩, ⟨(some 81), (.call 33 [(.t 79), (.t 80)]), none⟩, ⟨(some 82), (.not (.t 81)), none⟩, ⟨(some 83), (.mov (.t 82)), none⟩, ⟨(some 84), (.mov (.t 13)), (some (83, false))⟩, ⟨(some 85), (.mov (.t 5)), (some (83, false))⟩, ⟨(some 86), (.beq true (.t 84) (.t 85)), (some (83, false))⟩, ⟨(some 87), (.pick (.t 83) (.c (.bool true)) (.t 86)), none⟩]) (.cond (.t 87) (.seq (.ops [⟨(some 2), (.mov (.c (.bool false))), none⟩]) .ret) .skip)) (.seq (.ops [⟨(some 11), (.mov (.c (.int .i64 1))), none⟩]) (.seq (.ops [⟨(some 88), (.mov (.t 7)), none⟩, ⟨(some 89), (.mov (.t 11)), none⟩, ⟨(some 90), (.call 35 [(.t 88), (.t 89)]), none⟩, ⟨(some 11), (.mov (.t 90)), none⟩]) (.seq (.seq (.ops [⟨(some 91), (.mov (.t 11)), none⟩, ⟨(some 92), (.bin .lss (.t 91) (.c (.int .i64 0))), none⟩]) (.cond (.t 92) (.seq (.ops [⟨(some 2), (.mov (.c (.bool false))), none⟩]) .ret) .skip)) (.seq (.seq (.ops [⟨(some 93), (.mov (.t 11)), none⟩, ⟨(some 94), (.mov (.t 10)), none⟩, ⟨(some 95), (.bin .neq (.t 93) (.t 94)), none⟩]) (.cond (.t 95) (.seq (.ops [⟨(some 2), (.mov (.c (.bool false))), none⟩]) .ret) .skip)) (.seq (.ops [⟨(some 2), (.mov (.c (.bool true))), none⟩]) .ret)))))))))))))))))))))))))
theorem cc12 : ccode Try.prog (min Try.f12.ntmps pbase) (Try.f12.body.getD .skip) = some ac12 := by kernel_rfl
def ac13 : ACode := (.seq (.ops [⟨(some 1), (.box 2 (.t 0)), none⟩, ⟨(some 2), (.mov (.c (.bool false))), none⟩]) (.seq (.ops [⟨(some 3), (.mov (.c (.int .i64 1048576))), none⟩]) (.seq (.ops [⟨(some 9), (.ld (some 2) (.t 1)), none⟩, ⟨(some 10), (.mov (.t 3)), none⟩, ⟨(some 11), (.call 18 [(.t 9), (.t 10)]), none⟩, ⟨(some 3), (.mov (.t 11)), none⟩]) (.seq (.seq (.ops [⟨(some 12), (.mov (.t 3)), none⟩, ⟨(some 13), (.bin .lss (.t 12) (.c (.int .i64 0))), none⟩]) (.cond (.t 13) (.seq (.ops [⟨(some 2), (.mov (.c (.bool true))), none⟩]) .ret) .skip)) (.seq (.ops [⟨(some 15), (.ld (some 2) (.t 1)), none⟩, ⟨(some 16), (.call 20 [(.t 15)]), none⟩, ⟨(some 17), (.call 47 [(.t 16)]), none⟩, ⟨(some 14), (.mov (.t 17)), none⟩, ⟨(some 18), (.ext (.t 14) 0), none⟩, ⟨(some 19), (.ext (.t 14) 1), none⟩, ⟨(some 4), (.mov (.t 18)), none⟩, ⟨(some 5), (.mov (.t 19)), none⟩]) (.seq (.ops [⟨(some 20), (.ld (some 2) (.t 1)), none⟩, ⟨(some 21), (.call 20 [(.t 20)]), none⟩, ⟨(some 6), (.alloc [(.int .i64 0), (.slice none 0 0)]), none⟩, ⟨none, (.st 2 (.t 6) (.t 21)), none⟩]) (.seq (.ops [⟨(some 23), (.ld (some 2) (.t 6)), none⟩, ⟨(some 24), (.call 48 [(.t 23)]), none⟩, ⟨(some 22), (.mov (.t 24)), none⟩, ⟨(some 25), (.ext (.t 22) 0), none⟩, ⟨(some 26), (.ext (.t 22) 1), none⟩, ⟨(some 7), (.mov (.t 25)), none⟩, ⟨(some 8), (.mov (.t 26)), none⟩]) (.seq (.seq (.ops [⟨(some 27), (.mov (.t 7)), none⟩, ⟨(some 28), (.mov (.t 4)), none⟩, ⟨(some 29), (.bin .neq (.t 27) (.t 28)), none⟩, ⟨(some 30), (.mov (.t 29)), none⟩, ⟨(some 31), (.mov (.t 8)), (some (30, false))⟩, ⟨(some 32), (.mov (.t 5)), (some (30, false))⟩, ⟨(some 33), (.beq true (.t 31) (.t 32)), (some (30, false))⟩, ⟨(some 34), (.pick (.t 30) (.c (.bool true)) (.t 33)), none⟩]) (.cond (.t 34) (.seq (.ops [⟨(some 2), (.mov (.c (.bool false))), none⟩]) .ret) .skip)) (.seq (.seq (.tree (.take ⟨(some 35), (.ld (some 2) (.t 6)), none⟩ (.take ⟨(some 36), (.ld (some 2) (.t 1)), none⟩ (.take ⟨(some 37), (.call 20 [(.t 36)]), none⟩ (.take ⟨(some 38), (.call 22 [(.t 35), (.t 37)]), none⟩ (.take ⟨(some 39), (.not (.t 38)), none⟩ .done)))))) (.cond (.t 39) (.seq (.ops [⟨(some 2), (.mov (.c (.bool false))), none⟩]) .ret) .skip)) (.seq (.ops [⟨(some 2), (.mov (.c (.bool true))), none⟩]) .ret))))))))))
theorem cc13 : ccode Try.prog (min Try.f13.ntmps pbase) (Try.f13.body.getD .skip) = some ac13 := by kernel_rfl
def ac14 : ACode := (.seq (.ops [⟨(some 2), (.box 3 (.t 0)), none⟩, ⟨(some 4), (.mov (.c (.bool false))), none⟩]) (.seq (.seq (.ops [⟨(some 10), (.mov (.t 1)), none⟩, ⟨(some 11), (.len (.t 10)), none⟩, ⟨(some 12), (.bin .gtr (.t 11) (.c (.int .i64 1048576))), none⟩]) (.cond (.t 12) (.seq (.ops [⟨(some 4), (.mov (.c (.bool true))), none⟩]) .ret) .skip)) (.seq (.ops [⟨(some 14), (.ld (some 3) (.t 2)), none⟩, ⟨(some 15), (.call 16 [(.t 14)]), none⟩, ⟨(some 16), (.mov (.t 1)), none⟩, ⟨(some 17), (.call 50 [(.t 16)]), none⟩, ⟨(some 18), (.call 49 [(.t 15), (.t 17)]), none⟩, ⟨(some 13), (.mov (.t 18)), none⟩, ⟨(some 19), (.ext (.t 13) 0), none⟩, ⟨(some 20), (.ext (.t 13) 1), none⟩, ⟨(some 5), (.mov (.t 19)), none⟩, ⟨(some 6), (.mov (.t 20)), none⟩]) (.seq (.ops [⟨(some 21), (.mov (.t 1)), none⟩, ⟨(some 22), (.call 50 [(.t 21)]), none⟩, ⟨(some 7), (.mov (.t 22)), none⟩]) (.seq (.ops [⟨(some 24), (.ld (some 3) (.t 2)), none⟩, ⟨(some 25), (.call 16 [(.t 24)]), none⟩, ⟨(some 26), (.mov (.t 7)), none⟩, ⟨(some 27), (.call 51 [(.t 25), (.t 26)]), none⟩, ⟨(some 23), (.mov (.t 27)), none⟩, ⟨(some 28), (.ext (.t 23) 0), none⟩, ⟨(some 29), (.ext (.t 23) 1), none⟩, ⟨(some 8), (.mov (.t 28)), none⟩, ⟨(some 9), (.mov (.t 29)), none⟩]) (.seq (.seq (.ops [⟨(some 30), (.mov (.t 8)), none⟩, ⟨(some 31), (.mov (.t 5)), none⟩, ⟨(some 32), (.beq true (.t 30) (.t 31)), none⟩, ⟨(some 33), (.mov (.t 32)), none⟩, ⟨(some 34), (.mov (.t 9)), (some (33, false))⟩, ⟨(some 35), (.mov (.t 6)), (some (33, false))⟩, ⟨(some 36), (.beq true (.t 34) (.t 35)), (some (33, false))⟩, ⟨(some 37), (.pick (.t 33) (.c (.bool true)) (.t 36)), none⟩]) (.cond (.t 37) (.seq (.ops [⟨(some 4), (.mov (.c (.bool false))), none⟩]) .ret) .skip)) (.seq (.seq (.ops [⟨(some 38), (.mov (.t 7)), none⟩, ⟨(some 39), (.mov (.t 1)), none⟩, ⟨(some 40), (.call 50 [(.t 39)]), none⟩, ⟨(some 41), (.call 33 [(.t 38), (.t 40)]), none⟩, ⟨(some 42), (.not (.t 41)), none⟩]) (.cond (.t 42) (.seq (.ops [⟨(some 4), (.mov (.c (.bool false))), none⟩]) .ret) .skip)) (.seq (.ops [⟨(some 4), (.mov (.c (.bool true))), none⟩]) .ret))))))))
theorem cc14 : ccode Try.prog (min Try.f14.ntmps pbase) (Try.f14.body.getD .skip) = some ac14 := by kernel_rfl
def ac15 : ACode := (.seq (.ops [⟨(some 3), (.box 3 (.t 1)), none⟩, ⟨(some 4), (.mov (.c (.bool false))), none⟩]) (.seq (.ops [⟨(some 5), (.mov (.t 0)), none⟩, ⟨(some 6), (.call 52 [(.t 5)]), none⟩, ⟨(some 7), (.mov (.t 6)), none⟩, ⟨(some 8), (.mov (.t 0)), (some (7, true))⟩, ⟨(some 9), (.ld (some 3) (.t 3)), (some (7, true))⟩, ⟨(some 10), (.call 53 [(.t 8), (.t 9)]), (some (7, true))⟩, ⟨(some 11), (.pick (.t 7) (.t 10) (.c (.bool false))), none⟩, ⟨(some 4), (.mov (.t 11)), none⟩]) .ret))
theorem cc15 : ccode Try.prog (min Try.f15.ntmps pbase) (Try.f15.body.getD .skip) = some ac15 := by kernel_rfl
def ac16 : ACode := (.seq (.ops [⟨(some 1), (.box 3 (.t 0)), none⟩, ⟨(some 2), (.alloc [(.int .i64 0), (.int .i64 0), (.int .i64 0)]), none⟩]) (.seq (.ops [⟨(some 3), (.alloc [(.int .i64 0), (.int .i64 0), (.int .i64 0)]), none⟩]) (.seq (.ops [⟨(some 4), (.fa 0 (.t 1)), none⟩, ⟨(some 5), (.ld none (.t 4)), none⟩, ⟨(some 6), (.fa 0 (.t 3)), none⟩, ⟨none, (.st 1 (.t 6) (.t 5)), none⟩]) (.seq (.ops [⟨(some 7), (.fa 1 (.t 1)), none⟩, ⟨(some 8), (.ld none (.t 7)), none⟩, ⟨(some 9), (.fa 1 (.t 3)), none⟩, ⟨none, (.st 1 (.t 9) (.t 8)), none⟩]) (.seq (.ops [⟨(some 10), (.fa 2 (.t 1)), none⟩, ⟨(some 11), (.ld none (.t 10)), none⟩, ⟨(some 12), (.fa 2 (.t 3)), none⟩, ⟨none, (.st 1 (.t 12) (.t 11)), none⟩]) (.seq (.ops [⟨(some 13), (.ld (some 3) (.t 3)), none⟩, ⟨none, (.st 3 (.t 2) (.t 13)), none⟩]) .ret))))))
theorem cc16 : ccode Try.prog (min Try.f16.ntmps pbase) (Try.f16.body.getD .skip) = some ac16 := by kernel_rfl
def ac17 : ACode := (.seq (.ops [⟨(some 3), (.box 3 (.t 1)), none⟩, ⟨(some 4), (.mov (.c (.bool false))), none⟩]) (.seq (.ops [⟨(some 5), (.mov (.t 0)), none⟩, ⟨(some 6), (.ld (some 3) (.t 3)), none⟩, ⟨(some 7), (.bsl 3 1 [(.int .i64 0), (.int .i64 0), (.int .i64 0)] [(0, (.t 6))]), none⟩, ⟨(some 8), (.pu (.bld [(.int .i64 0), (.slice none 0 0)] [(0, 1), (1, 1)]) [(.t 5), (.t 7)]), none⟩, ⟨(some 9), (.call 21 [(.t 8)]), none⟩, ⟨(some 4), (.mov (.t 9)), none⟩]) .ret))
theorem cc17 : ccode Try.prog (min Try.f17.ntmps pbase) (Try.f17.body.getD .skip) = some ac17 := by kernel_rfl
def ac18 : ACode := (.seq (.ops [⟨(some 2), (.box 2 (.t 0)), none⟩, ⟨(some 4), (.mov (.c (.int .i64 0))), none⟩]) (.seq (.ops [⟨(some 5), (.fa 1 (.t 2)), none⟩, ⟨(some 6), (.ld none (.t 5)), none⟩, ⟨(some 7), (.mov (.t 1)), none⟩, ⟨(some 8), (.call 54 [(.t 6), (.t 7)]), none⟩, ⟨(some 1), (.mov (.t 8)), none⟩]) (.seq (.seq (.ops [⟨(some 9), (.mov (.t 1)), none⟩, ⟨(some 10), (.bin .lss (.t 9) (.c (.int .i64 0))), none⟩]) (.cond (.t 10) (.seq (.ops [⟨(some 4), (.mov (.c (.int .i64 (-1)))), none⟩]) .ret) .skip)) (.seq (.ops [⟨(some 11), (.mov (.t 1)), none⟩, ⟨(some 4), (.mov (.t 11)), none⟩]) .ret))))
theorem cc18 : ccode Try.prog (min Try.f18.ntmps pbase) (Try.f18.body.getD .skip) = some ac18 := by kernel_rfl
def ac19 : ACode := (.seq (.ops [⟨(some 1), (.box 2 (.t 0)), none⟩, ⟨(some 2), (.mov (.c (.bool false))), none⟩]) (.seq (.ops [⟨(some 3), (.ld (some 2) (.t 1)), none⟩, ⟨(some 4), (.call 55 [(.t 3)]), none⟩, ⟨(some 2), (.mov (.t 4)), none⟩]) .ret))
theorem cc19 : ccode Try.prog (min Try.f19.ntmps pbase) (Try.f19.body.getD .skip) = some ac19 := by kernel_rfl
def ac20 : ACode := (.seq (.ops [⟨(some 1), (.box 2 (.t 0)), none⟩, ⟨(some 2), (.alloc [(.int .i64 0), (.slice none 0 0)]), none⟩]) (.seq (.ops [⟨(some 3), (.alloc [(.int .i64 0), (.slice none 0 0)]), none⟩]) (.seq (.ops [⟨(some 4), (.fa 0 (.t 1)), none⟩, ⟨(some 5), (.ld none (.t 4)), none⟩, ⟨(some 6), (.fa 0 (.t 3)), none⟩, ⟨none, (.st 1 (.t 6) (.t 5)), none⟩]) (.seq (.ops [⟨(some 7), (.fa 1 (.t 1)), none⟩, ⟨(some 8), (.ld none (.t 7)), none⟩, ⟨(some 9), (.call 56 [(.t 8)]), none⟩, ⟨(some 10), (.fa 1 (.t 3)), none⟩, ⟨none, (.st 1 (.t 10) (.t 9)), none⟩]) (.seq (.ops [⟨(some 11), (.ld (some 2) (.t 3)), none⟩, ⟨none, (.st 2 (.t 2) (.t 11)), none⟩]) .ret)))))
theorem cc20 : ccode Try.prog (min Try.f20.ntmps pbase) (Try.f20.body.getD .skip) = some ac20 := by kernel_rfl
def ac21 : ACode := (.seq (.ops [⟨(some 1), (.box 2 (.t 0)), none⟩, ⟨(some 2), (.mov (.c (.bool false))), none⟩]) (.seq (.ops [⟨(some 6), (.ld (some 2) (.t 1)), none⟩, ⟨(some 7), (.call 57 [(.t 6)]), none⟩, ⟨(some 5), (.mov (.t 7)), none⟩, ⟨(some 8), (.ext (.t 5) 0), none⟩, ⟨(some 9), (.ext (.t 5) 1), none⟩, ⟨(some 3), (.mov (.t 8)), none⟩, ⟨(some 4), (.mov (.t 9)), none⟩]) (.seq (.ops [⟨(some 10), (.mov (.t 4)), none⟩, ⟨(some 2), (.mov (.t 10)), none⟩]) .ret)))
theorem cc21 : ccode Try.prog (min Try.f21.ntmps pbase) (Try.f21.body.getD .skip) = some ac21 := by kernel_rfl
def ac22 : ACode := (.seq (.ops [⟨(some 2), (.box 2 (.t 0)), none⟩, ⟨(some 3), (.box 2 (.t 1)), none⟩, ⟨(some 4), (.mov (.c (.bool false))), none⟩]) (.seq (.seq (.ops [⟨(some 5), (.fa 0 (.t 2)), none⟩, ⟨(some 6), (.ld none (.t 5)), none⟩, ⟨(some 7), (.fa 0 (.t 3)), none⟩, ⟨(some 8), (.ld none (.t 7)), none⟩, ⟨(some 9), (.bin .neq (.t 6) (.t 8)), none⟩]) (.cond (.t 9) (.seq (.ops [⟨(some 4), (.mov (.c (.bool false))), none⟩]) .ret) .skip)) (.seq (.seq (.ops [⟨(some 10), (.fa 1 (.t 2)), none⟩, ⟨(some 11), (.ld none (.t 10)), none⟩, ⟨(some 12), (.fa 1 (.t 3)), none⟩, ⟨(some 13), (.ld none (.t 12)), none⟩, ⟨(some 14), (.call 58 [(.t 11), (.t 13)]), none⟩, ⟨(some 15), (.not (.t 14)), none⟩]) (.cond (.t 15) (.seq (.ops [⟨(some 4), (.mov (.c (.bool false))), none⟩]) .ret) .skip)) (.seq (.ops [⟨(some 4), (.mov (.c (.bool true))), none⟩]) .ret))))
theorem cc22 : ccode Try.prog (min Try.f22.ntmps pbase) (Try.f22.body.getD .skip) = some ac22 := by kernel_rfl
def ac23 : ACode := (.seq (.ops [⟨(some 1), (.box 2 (.t 0)), none⟩, ⟨(some 2), (.mov (.c (.int .i64 0))), none⟩, ⟨(some 3), (.mov (.c (.bool false))), none⟩]) (.seq (.seq (.ops [⟨(some 4), (.ld (some 2) (.t 1)), none⟩, ⟨(some 5), (.call 55 [(.t 4)]), none⟩, ⟨(some 6), (.not (.t 5)), none⟩]) (.cond (.t 6) (.seq (.ops [⟨(some 2), (.mov (.c (.int .i64 0))), none⟩, ⟨(some 3), (.mov (.c (.bool false))), none⟩]) .ret) .skip)) (.seq (.ops [⟨(some 7), (.fa 0 (.t 1)), none⟩, ⟨(some 8), (.ld none (.t 7)), none⟩, ⟨(some 9), (.fa 1 (.t 1)), none⟩, ⟨(some 10), (.ld none (.t 9)), none⟩, ⟨(some 11), (.call 59 [(.t 8), (.t 10)]), none⟩, ⟨(some 12), (.len (.t 11)), none⟩, ⟨(some 2), (.mov (.t 12)), none⟩, ⟨(some 3), (.mov (.c (.bool true))), none⟩]) .ret)))
theorem cc23 : ccode Try.prog (min Try.f23.ntmps pbase) (Try.f23.body.getD .skip) = some ac23 := by kernel_rfl
def ac24 : ACode := (.seq (.ops [⟨(some 1), (.box 2 (.t 0)), none⟩, ⟨(some 2), (.mov (.c (.int .i64 0))), none⟩, ⟨(some 3), (.mov (.c (.bool false))), none⟩]) (.seq (.ops [⟨(some 7), (.ld (some 2) (.t 1)), none⟩, ⟨(some 8), (.call 57 [(.t 7)]), none⟩, ⟨(some 6), (.mov (.t 8)), none⟩, ⟨(some 9), (.ext (.t 6) 0), none⟩, ⟨(some 10), (.ext (.t 6) 1), none⟩, ⟨(some 4), (.mov (.t 9)), none⟩, ⟨(some 5), (.mov (.t 10)), none⟩]) (.seq (.ops [⟨(some 11), (.mov (.t 4)), none⟩, ⟨(some 12), (.len (.t 11)), none⟩, ⟨(some 13), (.mov (.t 5)), none⟩, ⟨(some 2), (.mov (.t 12)), none⟩, ⟨(some 3), (.mov (.t 13)), none⟩]) .ret)))
theorem cc24 : ccode Try.prog (min Try.f24.ntmps pbase) (Try.f24.body.getD .skip) = some ac24 := by kernel_rfl
def ac25 : ACode := (.seq (.ops [⟨(some 1), (.box 2 (.t 0)), none⟩, ⟨(some 2), (.nils 1), none⟩, ⟨(some 3), (.mov (.c (.bool false))), none⟩]) (.seq (.seq (.ops [⟨(some 4), (.ld (some 2) (.t 1)), none⟩, ⟨(some 5), (.call 55 [(.t 4)]), none⟩, ⟨(some 6), (.not (.t 5)), none⟩]) (.cond (.t 6) (.seq (.ops [⟨(some 2), (.nils 1), none⟩, ⟨(some 3), (.mov (.c (.bool false))), none⟩]) .ret) .skip)) (.seq (.ops [⟨(some 7), (.fa 0 (.t 1)), none⟩, ⟨(some 8), (.ld none (.t 7)), none⟩, ⟨(some 9), (.fa 1 (.t 1)), none⟩, ⟨(some 10), (.ld none (.t 9)), none⟩, ⟨(some 11), (.call 59 [(.t 8), (.t 10)]), none⟩, ⟨(some 2), (.mov (.t 11)), none⟩, ⟨(some 3), (.mov (.c (.bool true))), none⟩]) .ret)))
theorem cc25 : ccode Try.prog (min Try.f25.ntmps pbase) (Try.f25.body.getD .skip) = some ac25 := by kernel_rfl
def ac26 : ACode := (.seq (.ops [⟨(some 1), (.box 2 (.t 0)), none⟩, ⟨(some 2), (.nils 1), none⟩, ⟨(some 3), (.mov (.c (.bool false))), none⟩]) (.seq (.ops [⟨(some 4), (.ld (some 2) (.t 1)), none⟩, ⟨(some 5), (.call 57 [(.t 4)]), none⟩, ⟨(some 6), (.ext (.t 5) 0), none⟩, ⟨(some 7), (.ext (.t 5) 1), none⟩, ⟨(some 2), (.mov (.t 6)), none⟩, ⟨(some 3), (.mov (.t 7)), none⟩]) .ret))
theorem cc26 : ccode Try.prog (min Try.f26.ntmps pbase) (Try.f26.body.getD .skip) = some ac26 := by kernel_rfl
def ac27 : ACode := (.seq (.ops [⟨(some 4), (.mov (.c (.bool false))), none⟩]) (.seq (.seq (.ops [⟨(some 6), (.mov (.t 0)), none⟩, ⟨(some 7), (.len (.t 6)), none⟩, ⟨(some 8), (.mov (.t 1)), none⟩, ⟨(some 9), (.len (.t 8)), none⟩, ⟨(some 10), (.bin .neq (.t 7) (.t 9)), none⟩]) (.cond (.t 10) (.seq (.ops [⟨(some 4), (.mov (.c (.bool false))), none⟩]) .ret) .skip)) (.seq (.seq (.ops [⟨(some 5), (.mov (.c (.int .i64 0))), none⟩]) (.block 0 (.loop (.seq (.seq (.ops [⟨(some 11), (.mov (.t 5)), none⟩, ⟨(some 12), (.mov (.t 0)), none⟩, ⟨(some 13), (.len (.t 12)), none⟩, ⟨(some 14), (.bin .lss (.t 11) (.t 13)), none⟩]) (.cond (.t 14) .skip (.exit 0))) (.seq (.block 1 (.seq (.tree (.take ⟨(some 17), (.mov (.t 0)), none⟩ (.take ⟨(some 18), (.mov (.t 5)), none⟩ (.take ⟨(some 19), (.idx 1 (.t 17) (.t 18)), none⟩ (.take ⟨(some 20), (.ld none (.t 19)), none⟩ (.take ⟨(some 21), (.mov (.t 1)), none⟩ (.take ⟨(some 22), (.mov (.t 5)), none⟩ (.take ⟨(some 23), (.idx 1 (.t 21) (.t 22)), none⟩ (.take ⟨(some 24), (.ld none (.t 23)), none⟩ (.take ⟨(some 25), (.call 33 [(.t 20), (.t 24)]), none⟩ (.take ⟨(some 26), (.not (.t 25)), none⟩ .done))))))))))) (.cond (.t 26) (.seq (.ops [⟨(some 4), (.mov (.c (.bool false))), none⟩]) .ret) .skip))) (.ops [⟨(some 15), (.mov (.t 5)), none⟩, ⟨(some 16), (.bin .add (.t 15) (.c (.int .i64 1))), none⟩, ⟨(some 5), (.mov (.t 16)), none⟩])))))) (.seq (.ops [⟨(some 4), (.mov (.c (.bool true))), none⟩]) .ret))))
theorem cc27 : ccode Try.prog (min Try.f27.ntmps pbase) (Try.f27.body.getD .skip) = some ac27 := by kernel_rfl
def ac28 : ACode := (.seq (.ops [⟨(some 2), (.box 2 (.t 0)), none⟩, ⟨(some 4), (.mov (.c (.int .i64 0))), none⟩]) (.seq (.ops [⟨(some 5), (.fa 1 (.t 2)), none⟩, ⟨(some 6), (.ld none (.t 5)), none⟩, ⟨(some 7), (.mov (.t 1)), none⟩, ⟨(some 8), (.call 60 [(.t 6), (.t 7)]), none⟩, ⟨(some 1), (.mov (.t 8)), none⟩]) (.seq (.ops [⟨(some 9), (.mov (.t 1)), none⟩, ⟨(some 4), (.mov (.t 9)), none⟩]) .ret)))
theorem cc28 : ccode Try.prog (min Try.f28.ntmps pbase) (Try.f28.body.getD .skip) = some ac28 := by kernel_rfl
def ac29 : ACode := (.seq (.ops [⟨(some 4), (.mov (.c (.int .i64 0))), none⟩]) (.seq (.seq (.ops [⟨(some 5), (.mov (.c (.int .i64 0))), none⟩]) (.block 0 (.loop (.seq (.seq (.ops [⟨(some 6), (.mov (.t 5)), none⟩, ⟨(some 7), (.mov (.t 0)), none⟩, ⟨(some 8), (.len (.t 7)), none⟩, ⟨(some 9), (.bin .lss (.t 6) (.t 8)), none⟩]) (.cond (.t 9) .skip (.exit 0))) (.seq (.block 1 (.ops [⟨(some 12), (.mov (.t 0)), none⟩, ⟨(some 13), (.mov (.t 5)), none⟩, ⟨(some 14), (.idx 1 (.t 12) (.t 13)), none⟩, ⟨(some 15), (.ld none (.t 14)), none⟩, ⟨(some 16), (.mov (.t 1)), none⟩, ⟨(some 17), (.call 34 [(.t 15), (.t 16)]), none⟩, ⟨(some 1), (.mov (.t 17)), none⟩])) (.ops [⟨(some 10), (.mov (.t 5)), none⟩, ⟨(some 11), (.bin .add (.t 10) (.c (.int .i64 1))), none⟩, ⟨(some 5), (.mov (.t 11)), none⟩])))))) (.seq (.ops [⟨(some 18), (.mov (.t 1)), none⟩, ⟨(some 4), (.mov (.t 18)), none⟩]) .ret)))
theorem cc29 : ccode Try.prog (min Try.f29.ntmps pbase) (Try.f29.body.getD .skip) = some ac29 := by kernel_rfl
def ac30 : ACode := (.seq (.ops [⟨(some 4), (.mov (.c (.int .i64 0))), none⟩]) (.seq (.seq (.ops [⟨(some 5), (.mov (.c (.int .i64 0))), none⟩]) (.block 0 (.loop (.seq (.seq (.ops [⟨(some 6), (.mov (.t 5)), none⟩, ⟨(some 7), (.mov (.t 0)), none⟩, ⟨(some 8), (.len (.t 7)), none⟩, ⟨(some 9), (.bin .lss (.t 6) (.t 8)), none⟩]) (.cond (.t 9) .skip (.exit 0))) (.seq (.block 1 (.seq (.ops [⟨(some 12), (.mov (.t 0)), none⟩, ⟨(some 13), (.mov (.t 5)), none⟩, ⟨(some 14), (.idx 1 (.t 12) (.t 13)), none⟩, ⟨(some 15), (.ld none (.t 14)), none⟩, ⟨(some 16), (.mov (.t 1)), none⟩, ⟨(some 17), (.call 35 [(.t 15), (.t 16)]), none⟩, ⟨(some 1), (.mov (.t 17)), none⟩]) (.seq (.ops [⟨(some 18), (.mov (.t 1)), none⟩, ⟨(some 19), (.bin .lss (.t 18) (.c (.int .i64 0))), none⟩]) (.cond (.t 19) (.seq (.ops [⟨(some 4), (.mov (.c (.int .i64 (-1)))), none⟩]) .ret) .skip)))) (.ops [⟨(some 10), (.mov (.t 5)), none⟩, ⟨(some 11), (.bin .add (.t 10) (.c (.int .i64 1))), none⟩, ⟨(some 5), (.mov (.t 11)), none⟩])))))) (.seq (.ops [⟨(some 20), (.mov (.t 1)), none⟩, ⟨(some 4), (.mov (.t 20)), none⟩]) .ret)))
theorem cc30 : ccode Try.prog (min Try.f30.ntmps pbase) (Try.f30.body.getD .skip) = some ac30 := by kernel_rfl
def ac31 : ACode := (.seq (.ops [⟨(some 1), (.box 2 (.t 0)), none⟩, ⟨(some 2), (.nils 1), none⟩, ⟨(some 3), (.mov (.c (.bool false))), none⟩]) (.seq (.seq (.ops [⟨(some 5), (.ld (some 2) (.t 1)), none⟩, ⟨(some 6), (.call 55 [(.t 5)]), none⟩, ⟨(some 7), (.not (.t 6)), none⟩]) (.cond (.t 7) (.seq (.ops [⟨(some 2), (.nils 1), none⟩, ⟨(some 3), (.mov (.c (.bool false))), none⟩]) .ret) .skip)) (.seq (.ops [⟨(some 8), (.fa 0 (.t 1)), none⟩, ⟨(some 9), (.ld none (.t 8)), none⟩, ⟨(some 10), (.fa 1 (.t 1)), none⟩, ⟨(some 11), (.ld none (.t 10)), none⟩, ⟨(some 12), (.call 59 [(.t 9), (.t 11)]), none⟩, ⟨(some 4), (.mov (.t 12)), none⟩]) (.seq (.seq (.ops [⟨(some 13), (.mov (.t 4)), none⟩, ⟨(some 14), (.len (.t 13)), none⟩, ⟨(some 15), (.bin .eql (.t 14) (.c (.int .i64 0))), none⟩]) (.cond (.t 15) (.seq (.ops [⟨(some 2), (.nils 1), none⟩, ⟨(some 3), (.mov (.c (.bool false))), none⟩]) .ret) .skip)) (.seq (.ops [⟨(some 16), (.mov (.t 4)), none⟩, ⟨(some 17), (.idx 1 (.t 16) (.c (.int .i64 0))), none⟩, ⟨(some 18), (.ld none (.t 17)), none⟩, ⟨(some 2), (.mov (.t 18)), none⟩, ⟨(some 3), (.mov (.c (.bool true))), none⟩]) .ret)))))
theorem cc31 : ccode Try.prog (min Try.f31.ntmps pbase) (Try.f31.body.getD .skip) = some ac31 := by kernel_rfl
def ac32 : ACode := (.seq (.ops [⟨(some 1), (.box 2 (.t 0)), none⟩, ⟨(some 2), (.nils 1), none⟩, ⟨(some 3), (.mov (.c (.bool false))), none⟩]) (.seq (.ops [⟨(some 7), (.ld (some 2) (.t 1)), none⟩, ⟨(some 8), (.call 57 [(.t 7)]), none⟩, ⟨(some 6), (.mov (.t 8)), none⟩, ⟨(some 9), (.ext (.t 6) 0), none⟩, ⟨(some 10), (.ext (.t 6) 1), none⟩, ⟨(some 4), (.mov (.t 9)), none⟩, ⟨(some 5), (.mov (.t 10)), none⟩]) (.seq (.seq (.ops [⟨(some 11), (.mov (.t 4)), none⟩, ⟨(some 12), (.len (.t 11)), none⟩, ⟨(some 13), (.bin .eql (.t 12) (.c (.int .i64 0))), none⟩]) (.cond (.t 13) (.seq (.ops [⟨(some 2), (.nils 1), none⟩, ⟨(some 3), (.mov (.c (.bool false))), none⟩]) .ret) .skip)) (.seq (.ops [⟨(some 14), (.mov (.t 4)), none⟩, ⟨(some 15), (.idx 1 (.t 14) (.c (.int .i64 0))), none⟩, ⟨(some 16), (.ld none (.t 15)), none⟩, ⟨(some 2), (.mov (.t 16)), none⟩, ⟨(some 3), (.mov (.c (.bool true))), none⟩]) .ret))))
theorem cc32 : ccode Try.prog (min Try.f32.ntmps pbase) (Try.f32.body.getD .skip) = some ac32 := by kernel_rfl
def ac33 : ACode := (.seq (.ops [⟨(some 4), (.mov (.c (.bool false))), none⟩]) (.seq (.seq (.ops [⟨(some 6), (.mov (.t 0)), none⟩, ⟨(some 7), (.len (.t 6)), none⟩, ⟨(some 8), (.mov (.t 1)), none⟩, ⟨(some 9), (.len (.t 8)), none⟩, ⟨(some 10), (.bin .neq (.t 7) (.t 9)), none⟩]) (.cond (.t 10) (.seq (.ops [⟨(some 4), (.mov (.c (.bool false))), none⟩]) .ret) .skip)) (.seq (.seq (.ops [⟨(some 5), (.mov (.c (.int .i64 0))), none⟩]) (.block 0 (.loop (.seq (.seq (.ops [⟨(some 11), (.mov (.t 5)), none⟩, ⟨(some 12), (.mov (.t 0)), none⟩, ⟨(some 13), (.len (.t 12)), none⟩, ⟨(some 14), (.bin .lss (.t 11) (.t 13)), none⟩]) (.cond (.t 14) .skip (.exit 0))) (.seq (.block 1 (.seq (.tree (.take ⟨(some 17), (.mov (.t 0)), none⟩ (.take ⟨(some 18), (.mov (.t 5)), none⟩ (.take ⟨(some 19), (.idx 1 (.t 17) (.t 18)), none⟩ (.take ⟨(some 20), (.ld none (.t 19)), none⟩ (.take ⟨(some 21), (.mov (.t 1)), none⟩ (.take ⟨(some 22), (.mov (.t 5)), none⟩ (.take ⟨(some 23), (.idx 1 (.t 21) (.t 22)), none⟩ (.take ⟨(some 24), (.ld none (.t 23)), none⟩ (.take ⟨(some 25), (.bin .neq (.t 20) (.t 24)), none⟩ .done)))))))))) (.cond (.t 25) (.seq (.ops [⟨(some 4), (.mov (.c (.bool false))), none⟩]) .ret) .skip))) (.ops [⟨(some 15), (.mov (.t 5)), none⟩, ⟨(some 16), (.bin .add (.t 15) (.c (.int .i64 1))), none⟩, ⟨(some 5), (.mov (.t 16)), none⟩])))))) (.seq (.ops [⟨(some 4), (.mov (.c (.bool true))), none⟩]) .ret))))
theorem cc33 : ccode Try.prog (min Try.f33.ntmps pbase) (Try.f33.body.getD .skip) = some ac33 := by kernel_rfl
def ac34 : ACode := (.seq (.ops [⟨(some 4), (.mov (.c (.int .i64 0))), none⟩]) (.seq (.seq (.ops [⟨(some 5), (.mov (.c (.int .i64 0))), none⟩]) (.block 0 (.loop (.seq (.seq (.ops [⟨(some 6), (.mov (.t 5)), none⟩, ⟨(some 7), (.mov (.t 0)), none⟩, ⟨(some 8), (.len (.t 7)), none⟩, ⟨(some 9), (.bin .lss (.t 6) (.t 8)), none⟩]) (.cond (.t 9) .skip (.exit 0))) (.seq (.block 1 (.seq (.ops [⟨(some 12), (.mov (.t 0)), none⟩, ⟨(some 13), (.mov (.t 5)), none⟩, ⟨(some 14), (.mov (.t 1)), none⟩, ⟨(some 15), (.idx 1 (.t 12) (.t 13)), none⟩, ⟨none, (.st 1 (.t 15) (.t 14)), none⟩]) (.ops [⟨(some 16), (.mov (.t 1)), none⟩, ⟨(some 17), (.bin .add (.t 16) (.c (.int .i64 1))), none⟩, ⟨(some 1), (.mov (.t 17)), none⟩]))) (.ops [⟨(some 10), (.mov (.t 5)), none⟩, ⟨(some 11), (.bin .add (.t 10) (.c (.int .i64 1))), none⟩, ⟨(some 5), (.mov (.t 11)), none⟩])))))) (.seq (.ops [⟨(some 18), (.mov (.t 1)), none⟩, ⟨(some 4), (.mov (.t 18)), none⟩]) .ret)))
theorem cc34 : ccode Try.prog (min Try.f34.ntmps pbase) (Try.f34.body.getD .skip) = some ac34 := by kernel_rfl
def ac35 : ACode := (.seq (.ops [⟨(some 4), (.mov (.c (.int .i64 0))), none⟩]) (.seq (.seq (.ops [⟨(some 5), (.mov (.c (.int .i64 0))), none⟩]) (.block 0 (.loop (.seq (.seq (.ops [⟨(some 6), (.mov (.t 5)), none⟩, ⟨(some 7), (.mov (.t 0)), none⟩, ⟨(some 8), (.len (.t 7)), none⟩, ⟨(some 9), (.bin .lss (.t 6) (.t 8)), none⟩]) (.cond (.t 9) .skip (.exit 0))) (.seq (.block 1 (.seq (.seq (.ops [⟨(some 12), (.mov (.t 0)), none⟩, ⟨(some 13), (.mov (.t 5)), none⟩, ⟨(some 14), (.idx 1 (.t 12) (.t 13)), none⟩, ⟨(some 15), (.ld none (.t 14)), none⟩, ⟨(some 16), (.mov (.t 1)), none⟩, ⟨(some 17), (.bin .neq (.t 15) (.t 16)), none⟩]) (.cond (.t 17) (.seq (.ops [⟨(some 4), (.mov (.c (.int .i64 (-1)))), none⟩]) .ret) .skip)) (.ops [⟨(some 18), (.mov (.t 1)), none⟩, ⟨(some 19), (.bin .add (.t 18) (.c (.int .i64 1))), none⟩, ⟨(some 1), (.mov (.t 19)), none⟩]))) (.ops [⟨(some 10), (.mov (.t 5)), none⟩, ⟨(some 11), (.bin .add (.t 10) (.c (.int .i64 1))), none⟩, ⟨(some 5), (.mov (.t 11)), none⟩])))))) (.seq (.ops [⟨(some 20), (.mov (.t 1)), none⟩, ⟨(some 4), (.mov (.t 20)), none⟩]) .ret)))
theorem cc35 : ccode Try.prog (min Try.f35.ntmps pbase) (Try.f35.body.getD .skip) = some ac35 := by kernel_rfl
def ac38 : ACode := (.seq (.ops [⟨(some 1), (.box 2 (.t 0)), none⟩, ⟨(some 2), (.mov (.c (.bool false))), none⟩, ⟨(some 3), (.mov (.c (.bool false))), none⟩]) (.seq (.seq (.ops [⟨(some 4), (.ld (some 2) (.t 1)), none⟩, ⟨(some 5), (.call 55 [(.t 4)]), none⟩, ⟨(some 6), (.not (.t 5)), none⟩]) (.cond (.t 6) (.seq (.ops [⟨(some 2), (.mov (.c (.bool false))), none⟩, ⟨(some 3), (.mov (.c (.bool false))), none⟩]) .ret) .skip)) (.seq (.ops [⟨(some 7), (.fa 0 (.t 1)), none⟩, ⟨(some 8), (.ld none (.t 7)), none⟩, ⟨(some 9), (.fa 1 (.t 1)), none⟩, ⟨(some 10), (.ld none (.t 9)), none⟩, ⟨(some 11), (.call 62 [(.t 8), (.t 10)]), none⟩, ⟨(some 2), (.mov (.t 11)), none⟩, ⟨(some 3), (.mov (.c (.bool true))), none⟩]) .ret)))
theorem cc38 : ccode Try.prog (min Try.f38.ntmps pbase) (Try.f38.body.getD .skip) = some ac38 := by kernel_rfl
def ac39 : ACode := (.seq (.ops [⟨(some 1), (.box 2 (.t 0)), none⟩, ⟨(some 2), (.mov (.c (.bool false))), none⟩, ⟨(some 3), (.mov (.c (.bool false))), none⟩]) (.seq (.ops [⟨(some 7), (.ld (some 2) (.t 1)), none⟩, ⟨(some 8), (.call 57 [(.t 7)]), none⟩, ⟨(some 6), (.mov (.t 8)), none⟩, ⟨(some 9), (.ext (.t 6) 0), none⟩, ⟨(some 10), (.ext (.t 6) 1), none⟩, ⟨(some 4), (.mov (.t 9)), none⟩, ⟨(some 5), (.mov (.t 10)), none⟩]) (.seq (.ops [⟨(some 11), (.mov (.t 4)), none⟩, ⟨(some 12), (.len (.t 11)), none⟩, ⟨(some 13), (.bin .eql (.t 12) (.c (.int .i64 1))), none⟩, ⟨(some 14), (.mov (.t 5)), none⟩, ⟨(some 2), (.mov (.t 13)), none⟩, ⟨(some 3), (.mov (.t 14)), none⟩]) .ret)))
theorem cc39 : ccode Try.prog (min Try.f39.ntmps pbase) (Try.f39.body.getD .skip) = some ac39 := by kernel_rfl
def ac45 : ACode := (.seq (.ops [⟨(some 1), (.box 2 (.t 0)), none⟩, ⟨(some 2), (.nils 1), none⟩, ⟨(some 3), (.mov (.c (.bool false))), none⟩]) (.seq (.seq (.ops [⟨(some 6), (.ld (some 2) (.t 1)), none⟩, ⟨(some 7), (.call 55 [(.t 6)]), none⟩, ⟨(some 8), (.not (.t 7)), none⟩]) (.cond (.t 8) (.seq (.ops [⟨(some 2), (.nils 1), none⟩, ⟨(some 3), (.mov (.c (.bool false))), none⟩]) .ret) .skip)) (.seq (.ops [⟨(some 4), (.nils 1), none⟩]) (.seq (.seq (.ops [⟨(some 5), (.mov (.c (.int .i64 0))), none⟩]) (.block 0 (.loop (.seq (.seq (.ops [⟨(some 9), (.mov (.t 5)), none⟩, ⟨(some 10), (.fa 1 (.t 1)), none⟩, ⟨(some 11), (.ld none (.t 10)), none⟩, ⟨(some 12), (.len (.t 11)), none⟩, ⟨(some 13), (.bin .leq (.t 9) (.t 12)), none⟩]) (.cond (.t 13) .skip (.exit 0))) (.seq (.block 1 (.tree (.take ⟨(some 17), (.fa 0 (.t 1)), none⟩ (.take ⟨(some 18), (.ld none (.t 17)), none⟩ (.take ⟨(some 19), (.fa 1 (.t 1)), none⟩ (.take ⟨(some 20), (.ld none (.t 19)), none⟩ (.two ⟨(some 16), (.mov (.t 4)), none⟩ (.take ⟨(some 21), (.mov (.t 5)), none⟩ (.take ⟨(some 22), (.cut 3 (.t 20) none (some (.t 21))), none⟩ (.take ⟨(some 23), (.call 59 [(.t 18), (.t 22)]), none⟩ (.take ⟨(some 24), (.len (.t 23)), none⟩ (.take ⟨(some 25), (.bsl 1 1 [(.int .i64 0)] [(0, (.t 24))]), none⟩ (.take ⟨(some 26), (.app 1 8 (.t 16) (.t 25)), none⟩ (.take ⟨(some 4), (.mov (.t 26)), none⟩ .done))))))) ⟨(some 21), (.mov (.t 5)), none⟩ (.two ⟨(some 16), (.mov (.t 4)), none⟩ (.take ⟨(some 22), (.cut 3 (.t 20) none (some (.t 21))), none⟩ (.take ⟨(some 23), (.call 59 [(.t 18), (.t 22)]), none⟩ (.take ⟨(some 24), (.len (.t 23)), none⟩ (.take ⟨(some 25), (.bsl 1 1 [(.int .i64 0)] [(0, (.t 24))]), none⟩ (.take ⟨(some 26), (.app 1 8 (.t 16) (.t 25)), none⟩ (.take ⟨(some 4), (.mov (.t 26)), none⟩ .done)))))) ⟨(some 22), (.cut 3 (.t 20) none (some (.t 21))), none⟩ (.two ⟨(some 16), (.mov (.t 4)), none⟩ (.take ⟨(some 23), (.call 59 [(.t 18), (.t 22)]), none⟩ (.take ⟨(some 24), (.len (.t 23)), none⟩ (.take ⟨(some 25), (.bsl 1 1 [(.int .i64 0)] [(0, (.t 24))]), none⟩ (.take ⟨(some 26), (.app 1 8 (.t 16) (.t 25)), none⟩ (.take ⟨(some 4), (.mov (.t 26)), none⟩ .done))))) ⟨(some 23), (.call 59 [(.t 18), (.t 22)]), none⟩ (.two ⟨(some 16), (.mov (.t 4)), none⟩ (.take ⟨(some 24), (.len (.t 23)), none⟩ (.take ⟨(some 25), (.bsl 1 1 [(.int .i64 0)] [(0, (.t 24))]), none⟩ (.take ⟨(some 26), (.app 1 8 (.t 16) (.t 25)), none⟩ (.take ⟨(some 4), (.mov (.t 26)), none⟩ .done)))) ⟨(some 24), (.len (.t 23)), none⟩ (.two ⟨(some 16), (.mov (.t 4)), none⟩ (.take ⟨(some 25), (.bsl 1 1 [(.int .i64 0)] [(0, (.t 24))]), none⟩ (.take ⟨(some 26), (.app 1 8 (.t 16) (.t 25)), none⟩ (.take ⟨(some 4), (.mov (.t 26)), none⟩ .done))) ⟨(some 25), (.bsl 1 1 [(.int .i64 0)] [(0, (.t 24))]), none⟩ (.take ⟨(some 16), (.mov (.t 4)), none⟩ (.take ⟨(some 26), (.app 1 8 (.t 16) (.t 25)), none⟩ (.take ⟨(some 4), (.mov (.t 26)), none⟩ .done)))))))))))))) (.ops [⟨(some 14), (.mov (.t 5)), none⟩, ⟨(some 15), (.bin .add (.t 14) (.c (.int .i64 1))), none⟩, ⟨(some 5), (.mov (.t 15)), none⟩])))))) (.seq (.ops [⟨(some 27), (.mov (.t 4)), none⟩, ⟨(some 2), (.mov (.t 27)), none⟩, ⟨(some 3), (.mov (.c (.bool true))), none⟩]) .ret)))))
theorem cc45 : ccode Try.prog (min Try.f45.ntmps pbase) (Try.f45.body.getD .skip) = some ac45 := by kernel_rfl
def ac46 : ACode := (.seq (.ops [⟨(some 1), (.box 2 (.t 0)), none⟩, ⟨(some 2), (.nils 1), none⟩, ⟨(some 3), (.mov (.c (.bool false))), none⟩]) (.seq (.seq (.ops [⟨(some 6), (.ld (some 2) (.t 1)), none⟩, ⟨(some 7), (.call 21 [(.t 6)]), none⟩, ⟨(some 8), (.not (.t 7)), none⟩]) (.cond (.t 8) (.seq (.ops [⟨(some 2), (.nils 1), none⟩, ⟨(some 3), (.mov (.c (.bool false))), none⟩]) .ret) .skip)) (.seq (.ops [⟨(some 9), (.fa 1 (.t 1)), none⟩, ⟨(some 10), (.ld none (.t 9)), none⟩, ⟨(some 11), (.len (.t 10)), none⟩, ⟨(some 12), (.bin .add (.t 11) (.c (.int .i64 1))), none⟩, ⟨(some 13), (.mk 1 8 [(.int .i64 0)] (.t 12) (.t 12)), none⟩, ⟨(some 4), (.mov (.t 13)), none⟩]) (.seq (.seq (.ops [⟨(some 14), (.mov (.t 4)), none⟩, ⟨(some 15), (.len (.t 14)), none⟩, ⟨(some 16), (.mov (.c (.int .i64 0))), none⟩]) (.block 0 (.loop (.seq (.ops [⟨(some 17), (.bin .lss (.t 16) (.t 15)), none⟩]) (.seq (.cond (.t 17) .skip (.exit 0)) (.seq (.block 1 (.seq (.ops [⟨(some 18), (.mov (.t 16)), none⟩, ⟨(some 5), (.mov (.t 18)), none⟩]) (.ops [⟨(some 20), (.mov (.t 4)), none⟩, ⟨(some 21), (.mov (.t 5)), none⟩, ⟨(some 22), (.ld (some 2) (.t 1)), none⟩, ⟨(some 23), (.mov (.t 5)), none⟩, ⟨(some 24), (.call 67 [(.t 22), (.c (.int .i64 0)), (.t 23)]), none⟩, ⟨(some 25), (.call 24 [(.t 24)]), none⟩, ⟨(some 19), (.mov (.t 25)), none⟩, ⟨(some 26), (.ext (.t 19) 0), none⟩, ⟨(some 27), (.ext (.t 19) 1), none⟩, ⟨(some 28), (.idx 1 (.t 20) (.t 21)), none⟩, ⟨none, (.st 1 (.t 28) (.t 26)), none⟩]))) (.ops [⟨(some 29), (.bin .add (.t 16) (.c (.int .i64 1))), none⟩, ⟨(some 16), (.mov (.t 29)), none⟩]))))))) (.seq (.ops [⟨(some 30), (.mov (.t 4)), none⟩, ⟨(some 2), (.mov (.t 30)), none⟩, ⟨(some 3), (.mov (.c (.bool true))), none⟩]) .ret)))))
theorem cc46 : ccode Try.prog (min Try.f46.ntmps pbase) (Try.f46.body.getD .skip) = some ac46 := by kernel_rfl
def ac47 : ACode := (.seq (.ops [⟨(some 1), (.box 2 (.t 0)), none⟩, ⟨(some 2), (.mov (.c (.int .i64 0))), none⟩, ⟨(some 3), (.mov (.c (.bool false))), none⟩]) (.seq (.seq (.ops [⟨(some 8), (.ld (some 2) (.t 1)), none⟩, ⟨(some 9), (.call 55 [(.t 8)]), none⟩, ⟨(some 10), (.not (.t 9)), none⟩, ⟨(some 11), (.mov (.t 10)), none⟩, ⟨(some 12), (.fa 1 (.t 1)), (some (11, false))⟩, ⟨(some 13), (.ld none (.t 12)), (some (11, false))⟩, ⟨(some 14), (.len (.t 13)), (some (11, false))⟩, ⟨(some 15), (.bin .eql (.t 14) (.c (.int .i64 0))), (some (11, false))⟩, ⟨(some 16), (.pick (.t 11) (.c (.bool true)) (.t 15)), none⟩]) (.cond (.t 16) (.seq (.ops [⟨(some 2), (.mov (.c (.int .i64 0))), none⟩, ⟨(some 3), (.mov (.c (.bool false))), none⟩]) .ret) .skip)) (.seq (.ops [⟨(some 4), (.mov (.c (.int .i64 0))), none⟩, ⟨(some 5), (.mov (.c (.int .i64 0))), none⟩]) (.seq (.seq (.ops [⟨(some 17), (.fa 1 (.t 1)), none⟩, ⟨(some 18), (.ld none (.t 17)), none⟩, ⟨(some 19), (.len (.t 18)), none⟩, ⟨(some 20), (.mov (.c (.int .i64 0))), none⟩]) (.block 0 (.loop (.seq (.ops [⟨(some 21), (.bin .lss (.t 20) (.t 19)), none⟩]) (.seq (.cond (.t 21) .skip (.exit 0)) (.seq (.block 1 (.seq (.ops [⟨(some 22), (.mov (.t 20)), none⟩, ⟨(some 6), (.mov (.t 22)), none⟩]) (.seq (.tree (.take ⟨(some 23), (.fa 0 (.t 1)), none⟩ (.take ⟨(some 24), (.ld none (.t 23)), none⟩ (.take ⟨(some 25), (.fa 1 (.t 1)), none⟩ (.take ⟨(some 26), (.ld none (.t 25)), none⟩ (.take ⟨(some 27), (.mov (.t 6)), none⟩ (.take ⟨(some 28), (.mov (.t 6)), none⟩ (.take ⟨(some 29), (.bin .add (.t 28) (.c (.int .i64 1))), none⟩ (.take ⟨(some 30), (.cut 3 (.t 26) (some (.t 27)) (some (.t 29))), none⟩ (.take ⟨(some 31), (.call 59 [(.t 24), (.t 30)]), none⟩ (.take ⟨(some 32), (.len (.t 31)), none⟩ (.take ⟨(some 7), (.mov (.t 32)), none⟩ .done)))))))))))) (.seq (.ops [⟨(some 33), (.mov (.t 6)), none⟩, ⟨(some 34), (.bin .eql (.t 33) (.c (.int .i64 0))), none⟩, ⟨(some 35), (.mov (.t 34)), none⟩, ⟨(some 36), (.mov (.t 7)), (some (35, false))⟩, ⟨(some 37), (.mov (.t 5)), (some (35, false))⟩, ⟨(some 38), (.bin .lss (.t 36) (.t 37)), (some (35, false))⟩, ⟨(some 39), (.pick (.t 35) (.c (.bool true)) (.t 38)), none⟩]) (.cond (.t 39) (.seq (.ops [⟨(some 40), (.mov (.t 6)), none⟩, ⟨(some 4), (.mov (.t 40)), none⟩]) (.ops [⟨(some 41), (.mov (.t 7)), none⟩, ⟨(some 5), (.mov (.t 41)), none⟩])) .skip))))) (.ops [⟨(some 42), (.bin .add (.t 20) (.c (.int .i64 1))), none⟩, ⟨(some 20), (.mov (.t 42)), none⟩]))))))) (.seq (.ops [⟨(some 43), (.mov (.t 4)), none⟩, ⟨(some 2), (.mov (.t 43)), none⟩, ⟨(some 3), (.mov (.c (.bool true))), none⟩]) .ret)))))
theorem cc47 : ccode Try.prog (min Try.f47.ntmps pbase) (Try.f47.body.getD .skip) = some ac47 := by kernel_rfl
def ac48 : ACode := (.seq (.ops [⟨(some 1), (.box 2 (.t 0)), none⟩, ⟨(some 2), (.mov (.c (.int .i64 0))), none⟩, ⟨(some 3), (.mov (.c (.bool false))), none⟩]) (.seq (.seq (.ops [⟨(some 6), (.ld (some 2) (.t 1)), none⟩, ⟨(some 7), (.call 21 [(.t 6)]), none⟩, ⟨(some 8), (.not (.t 7)), none⟩, ⟨(some 9), (.mov (.t 8)), none⟩, ⟨(some 10), (.fa 1 (.t 1)), (some (9, false))⟩, ⟨(some 11), (.ld none (.t 10)), (some (9, false))⟩, ⟨(some 12), (.len (.t 11)), (some (9, false))⟩, ⟨(some 13), (.bin .eql (.t 12) (.c (.int .i64 0))), (some (9, false))⟩, ⟨(some 14), (.pick (.t 9) (.c (.bool true)) (.t 13)), none⟩]) (.cond (.t 14) (.seq (.ops [⟨(some 2), (.mov (.c (.int .i64 0))), none⟩, ⟨(some 3), (.mov (.c (.bool false))), none⟩]) .ret) .skip)) (.seq (.ops [⟨(some 15), (.fa 1 (.t 1)), none⟩, ⟨(some 16), (.ld none (.t 15)), none⟩, ⟨(some 17), (.len (.t 16)), none⟩, ⟨(some 18), (.mk 1 8 [(.int .i64 0)] (.t 17) (.t 17)), none⟩, ⟨(some 4), (.mov (.t 18)), none⟩]) (.seq (.seq (.ops [⟨(some 19), (.mov (.t 4)), none⟩, ⟨(some 20), (.len (.t 19)), none⟩, ⟨(some 21), (.mov (.c (.int .i64 0))), none⟩]) (.block 0 (.loop (.seq (.ops [⟨(some 22), (.bin .lss (.t 21) (.t 20)), none⟩]) (.seq (.cond (.t 22) .skip (.exit 0)) (.seq (.block 1 (.seq (.ops [⟨(some 23), (.mov (.t 21)), none⟩, ⟨(some 5), (.mov (.t 23)), none⟩]) (.ops [⟨(some 25), (.mov (.t 4)), none⟩, ⟨(some 26), (.mov (.t 5)), none⟩, ⟨(some 27), (.ld (some 2) (.t 1)), none⟩, ⟨(some 28), (.mov (.t 5)), none⟩, ⟨(some 29), (.mov (.t 5)), none⟩, ⟨(some 30), (.bin .add (.t 29) (.c (.int .i64 1))), none⟩, ⟨(some 31), (.call 67 [(.t 27), (.t 28), (.t 30)]), none⟩, ⟨(some 32), (.call 24 [(.t 31)]), none⟩, ⟨(some 24), (.mov (.t 32)), none⟩, ⟨(some 33), (.ext (.t 24) 0), none⟩, ⟨(some 34), (.ext (.t 24) 1), none⟩, ⟨(some 35), (.idx 1 (.t 25) (.t 26)), none⟩, ⟨none, (.st 1 (.t 35) (.t 33)), none⟩]))) (.ops [⟨(some 36), (.bin .add (.t 21) (.c (.int .i64 1))), none⟩, ⟨(some 21), (.mov (.t 36)), none⟩]))))))) (.seq (.ops [⟨(some 37), (.mov (.t 4)), none⟩, ⟨(some 38), (.mov (.t 4)), none⟩, ⟨(some 39), (.call 69 [(.t 38)]), none⟩, ⟨(some 40), (.call 68 [(.t 37), (.t 39)]), none⟩, ⟨(some 2), (.mov (.t 40)), none⟩, ⟨(some 3), (.mov (.c (.bool true))), none⟩]) .ret)))))
theorem cc48 : ccode Try.prog (min Try.f48.ntmps pbase) (Try.f48.body.getD .skip) = some ac48 := by kernel_rfl
def ac49 : ACode := (.seq (.ops [⟨(some 2), (.box 3 (.t 0)), none⟩, ⟨(some 4), (.mov (.c (.bool false))), none⟩, ⟨(some 5), (.mov (.c (.bool false))), none⟩]) (.seq (.seq (.ops [⟨(some 6), (.mov (.t 1)), none⟩, ⟨(some 7), (.call 70 [(.t 6)]), none⟩, ⟨(some 8), (.not (.t 7)), none⟩, ⟨(some 9), (.mov (.t 8)), none⟩, ⟨(some 10), (.mov (.t 1)), (some (9, false))⟩, ⟨(some 11), (.len (.t 10)), (some (9, false))⟩, ⟨(some 12), (.ld (some 3) (.t 2)), (some (9, false))⟩, ⟨(some 13), (.call 53 [(.t 11), (.t 12)]), (some (9, false))⟩, ⟨(some 14), (.not (.t 13)), (some (9, false))⟩, ⟨(some 15), (.pick (.t 9) (.c (.bool true)) (.t 14)), none⟩]) (.cond (.t 15) (.seq (.ops [⟨(some 4), (.mov (.c (.bool false))), none⟩, ⟨(some 5), (.mov (.c (.bool false))), none⟩]) .ret) .skip)) (.seq (.ops [⟨(some 16), (.ld (some 3) (.t 2)), none⟩, ⟨(some 17), (.mov (.t 1)), none⟩, ⟨(some 18), (.call 71 [(.t 16), (.t 17)]), none⟩, ⟨(some 4), (.mov (.t 18)), none⟩, ⟨(some 5), (.mov (.c (.bool true))), none⟩]) .ret)))
theorem cc49 : ccode Try.prog (min Try.f49.ntmps pbase) (Try.f49.body.getD .skip) = some ac49 := by kernel_rfl
def ac50 : ACode := (.seq (.ops [⟨(some 2), (.nils 1), none⟩]) (.seq (.ops [⟨(some 5), (.mov (.t 0)), none⟩, ⟨(some 6), (.len (.t 5)), none⟩, ⟨(some 7), (.mk 1 8 [(.int .i64 0)] (.t 6) (.t 6)), none⟩, ⟨(some 3), (.mov (.t 7)), none⟩]) (.seq (.seq (.ops [⟨(some 4), (.mov (.c (.int .i64 0))), none⟩]) (.block 0 (.loop (.seq (.seq (.ops [⟨(some 8), (.mov (.t 4)), none⟩, ⟨(some 9), (.mov (.t 0)), none⟩, ⟨(some 10), (.len (.t 9)), none⟩, ⟨(some 11), (.bin .lss (.t 8) (.t 10)), none⟩]) (.cond (.t 11) .skip (.exit 0))) (.seq (.block 1 (.ops [⟨(some 14), (.mov (.t 3)), none⟩, ⟨(some 15), (.mov (.t 4)), none⟩, ⟨(some 16), (.mov (.t 0)), none⟩, ⟨(some 17), (.mov (.t 4)), none⟩, ⟨(some 18), (.idx 1 (.t 16) (.t 17)), none⟩, ⟨(some 19), (.ld none (.t 18)), none⟩, ⟨(some 20), (.idx 1 (.t 14) (.t 15)), none⟩, ⟨none, (.st 1 (.t 20) (.t 19)), none⟩])) (.ops [⟨(some 12), (.mov (.t 4)), none⟩, ⟨(some 13), (.bin .add (.t 12) (.c (.int .i64 1))), none⟩, ⟨(some 4), (.mov (.t 13)), none⟩])))))) (.seq (.ops [⟨(some 21), (.mov (.t 3)), none⟩, ⟨(some 2), (.mov (.t 21)), none⟩]) .ret))))
theorem cc50 : ccode Try.prog (min Try.f50.ntmps pbase) (Try.f50.body.getD .skip) = some ac50 := by kernel_rfl
def ac51 : ACode := (.seq (.ops [⟨(some 2), (.box 3 (.t 0)), none⟩, ⟨(some 4), (.mov (.c (.bool false))), none⟩, ⟨(some 5), (.mov (.c (.bool false))), none⟩]) (.seq (.seq (.ops [⟨(some 6), (.mov (.t 1)), none⟩, ⟨(some 7), (.call 72 [(.t 6)]), none⟩, ⟨(some 8), (.not (.t 7)), none⟩, ⟨(some 9), (.mov (.t 8)), none⟩, ⟨(some 10), (.mov (.t 1)), (some (9, false))⟩, ⟨(some 11), (.len (.t 10)), (some (9, false))⟩, ⟨(some 12), (.ld (some 3) (.t 2)), (some (9, false))⟩, ⟨(some 13), (.call 17 [(.t 11), (.t 12)]), (some (9, false))⟩, ⟨(some 14), (.not (.t 13)), (some (9, false))⟩, ⟨(some 15), (.pick (.t 9) (.c (.bool true)) (.t 14)), none⟩]) (.cond (.t 15) (.seq (.ops [⟨(some 4), (.mov (.c (.bool false))), none⟩, ⟨(some 5), (.mov (.c (.bool false))), none⟩]) .ret) .skip)) (.seq (.ops [⟨(some 16), (.ld (some 3) (.t 2)), none⟩, ⟨(some 17), (.mov (.t 1)), none⟩, ⟨(some 18), (.call 73 [(.t 16), (.t 17)]), none⟩, ⟨(some 4), (.mov (.t 18)), none⟩, ⟨(some 5), (.mov (.c (.bool true))), none⟩]) .ret)))
theorem cc51 : ccode Try.prog (min Try.f51.ntmps pbase) (Try.f51.body.getD .skip) = some ac51 := by kernel_rfl
def ac52 : ACode := (.seq (.ops [⟨(some 2), (.mov (.c (.bool false))), none⟩]) (.seq (.ops [⟨(some 3), (.mov (.t 0)), none⟩, ⟨(some 4), (.call 65 [(.t 3), (.c (.int .i64 1)), (.c (.int .i64 5))]), none⟩, ⟨(some 2), (.mov (.t 4)), none⟩]) .ret))
theorem cc52 : ccode Try.prog (min Try.f52.ntmps pbase) (Try.f52.body.getD .skip) = some ac52 := by kernel_rfl
def ac53 : ACode := (.seq (.ops [⟨(some 3), (.box 3 (.t 1)), none⟩, ⟨(some 4), (.mov (.c (.bool false))), none⟩]) (.seq (.seq (.ops [⟨(some 5), (.fa 0 (.t 3)), none⟩, ⟨(some 6), (.ld none (.t 5)), none⟩]) (.block 0 (.seq (.seq (.ops [⟨(some 8), (.bin .eql (.t 6) (.c (.int .i64 0))), none⟩, ⟨(some 7), (.mov (.t 8)), none⟩]) (.cond (.t 7) .skip (.ops [⟨(some 9), (.bin .eql (.t 6) (.c (.int .i64 1))), none⟩, ⟨(some 7), (.mov (.t 9)), none⟩]))) (.cond (.t 7) (.seq (.ops [⟨(some 10), (.fa 1 (.t 3)), none⟩, ⟨(some 11), (.ld none (.t 10)), none⟩, ⟨(some 12), (.mov (.t 0)), none⟩, ⟨(some 13), (.bin .sub (.t 12) (.c (.int .i64 1))), none⟩, ⟨(some 14), (.call 65 [(.t 11), (.c (.int .i64 0)), (.t 13)]), none⟩, ⟨(some 15), (.mov (.t 14)), none⟩, ⟨(some 16), (.fa 2 (.t 3)), (some (15, true))⟩, ⟨(some 17), (.ld none (.t 16)), (some (15, true))⟩, ⟨(some 18), (.mov (.t 0)), (some (15, true))⟩, ⟨(some 19), (.bin .sub (.t 18) (.c (.int .i64 1))), (some (15, true))⟩, ⟨(some 20), (.call 65 [(.t 17), (.c (.int .i64 0)), (.t 19)]), (some (15, true))⟩, ⟨(some 21), (.pick (.t 15) (.t 20) (.c (.bool false))), none⟩, ⟨(some 4), (.mov (.t 21)), none⟩]) .ret) (.seq (.ops [⟨(some 23), (.bin .eql (.t 6) (.c (.int .i64 2))), none⟩, ⟨(some 22), (.mov (.t 23)), none⟩]) (.cond (.t 22) (.seq (.ops [⟨(some 24), (.fa 1 (.t 3)), none⟩, ⟨(some 25), (.ld none (.t 24)), none⟩, ⟨(some 26), (.mov (.t 0)), none⟩, ⟨(some 27), (.call 65 [(.t 25), (.c (.int .i64 0)), (.t 26)]), none⟩, ⟨(some 28), (.mov (.t 27)), none⟩, ⟨(some 29), (.fa 2 (.t 3)), (some (28, true))⟩, ⟨(some 30), (.ld none (.t 29)), (some (28, true))⟩, ⟨(some 31), (.bin .eql (.t 30) (.c (.int .i64 0))), (some (28, true))⟩, ⟨(some 32), (.pick (.t 28) (.t 31) (.c (.bool false))), none⟩, ⟨(some 4), (.mov (.t 32)), none⟩]) .ret) (.seq (.ops [⟨(some 34), (.bin .eql (.t 6) (.c (.int .i64 3))), none⟩, ⟨(some 33), (.mov (.t 34)), none⟩]) (.cond (.t 33) (.seq (.ops [⟨(some 35), (.fa 1 (.t 3)), none⟩, ⟨(some 36), (.ld none (.t 35)), none⟩, ⟨(some 37), (.mov (.t 0)), none⟩, ⟨(some 38), (.call 65 [(.t 36), (.c (.int .i64 1)), (.t 37)]), none⟩, ⟨(some 39), (.mov (.t 38)), none⟩, ⟨(some 40), (.fa 2 (.t 3)), (some (39, true))⟩, ⟨(some 41), (.ld none (.t 40)), (some (39, true))⟩, ⟨(some 42), (.bin .eql (.t 41) (.c (.int .i64 0))), (some (39, true))⟩, ⟨(some 43), (.pick (.t 39) (.t 42) (.c (.bool false))), none⟩, ⟨(some 4), (.mov (.t 43)), none⟩]) .ret) (.seq (.ops [⟨(some 45), (.bin .eql (.t 6) (.c (.int .i64 4))), none⟩, ⟨(some 44), (.mov (.t 45)), none⟩]) (.cond (.t 44) (.seq (.ops [⟨(some 46), (.fa 1 (.t 3)), none⟩, ⟨(some 47), (.ld none (.t 46)), none⟩, ⟨(some 48), (.mov (.t 0)), none⟩, ⟨(some 49), (.bin .sub (.t 48) (.c (.int .i64 1))), none⟩, ⟨(some 50), (.call 65 [(.t 47), (.c (.int .i64 0)), (.t 49)]), none⟩, ⟨(some 51), (.mov (.t 50)), none⟩, ⟨(some 52), (.fa 2 (.t 3)), (some (51, true))⟩, ⟨(some 53), (.ld none (.t 52)), (some (51, true))⟩, ⟨(some 54), (.call 65 [(.t 53), (.c (.int .i64 0)), (.c (.int .i64 1))]), (some (51, true))⟩, ⟨(some 55), (.pick (.t 51) (.t 54) (.c (.bool false))), none⟩, ⟨(some 4), (.mov (.t 55)), none⟩]) .ret) (.seq (.ops [⟨(some 57), (.bin .eql (.t 6) (.c (.int .i64 5))), none⟩, ⟨(some 56), (.mov (.t 57)), none⟩]) (.cond (.t 56) (.seq (.ops [⟨(some 58), (.fa 1 (.t 3)), none⟩, ⟨(some 59), (.ld none (.t 58)), none⟩, ⟨(some 60), (.call 65 [(.t 59), (.c (.int .i64 1)), (.c (.int .i64 6))]), none⟩, ⟨(some 61), (.mov (.t 60)), none⟩, ⟨(some 62), (.fa 2 (.t 3)), (some (61, true))⟩, ⟨(some 63), (.ld none (.t 62)), (some (61, true))⟩, ⟨(some 64), (.bin .eql (.t 63) (.c (.int .i64 0))), (some (61, true))⟩, ⟨(some 65), (.pick (.t 61) (.t 64) (.c (.bool false))), none⟩, ⟨(some 4), (.mov (.t 65)), none⟩]) .ret) .skip)))))))))))) (.seq (.ops [⟨(some 4), (.mov (.c (.bool false))), none⟩]) .ret)))
theorem cc53 : ccode Try.prog (min Try.f53.ntmps pbase) (Try.f53.body.getD .skip) = some ac53 := by kernel_rfl
def ac54 : ACode := (.seq (.ops [⟨(some 4), (.mov (.c (.int .i64 0))), none⟩]) (.seq (.ops [⟨(some 5), (.mov (.t 1)), none⟩, ⟨(some 6), (.mov (.t 0)), none⟩, ⟨(some 7), (.len (.t 6)), none⟩, ⟨(some 8), (.bin .sub (.t 5) (.t 7)), none⟩, ⟨(some 1), (.mov (.t 8)), none⟩]) (.seq (.seq (.ops [⟨(some 9), (.mov (.t 1)), none⟩, ⟨(some 10), (.bin .lss (.t 9) (.c (.int .i64 0))), none⟩]) (.cond (.t 10) (.seq (.ops [⟨(some 4), (.mov (.c (.int .i64 (-1)))), none⟩]) .ret) .skip)) (.seq (.ops [⟨(some 11), (.mov (.t 1)), none⟩, ⟨(some 4), (.mov (.t 11)), none⟩]) .ret))))
theorem cc54 : ccode Try.prog (min Try.f54.ntmps pbase) (Try.f54.body.getD .skip) = some ac54 := by kernel_rfl
def ac55 : ACode := (.seq (.ops [⟨(some 1), (.box 2 (.t 0)), none⟩, ⟨(some 2), (.mov (.c (.bool false))), none⟩]) (.seq (.seq (.ops [⟨(some 5), (.fa 0 (.t 1)), none⟩, ⟨(some 6), (.ld none (.t 5)), none⟩, ⟨(some 7), (.call 52 [(.t 6)]), none⟩, ⟨(some 8), (.not (.t 7)), none⟩, ⟨(some 9), (.mov (.t 8)), none⟩, ⟨(some 10), (.fa 1 (.t 1)), (some (9, false))⟩, ⟨(some 11), (.ld none (.t 10)), (some (9, false))⟩, ⟨(some 12), (.len (.t 11)), (some (9, false))⟩, ⟨(some 13), (.bin .gtr (.t 12) (.c (.int .i64 6))), (some (9, false))⟩, ⟨(some 14), (.pick (.t 9) (.c (.bool true)) (.t 13)), none⟩]) (.cond (.t 14) (.seq (.ops [⟨(some 2), (.mov (.c (.bool false))), none⟩]) .ret) .skip)) (.seq (.seq (.ops [⟨(some 15), (.fa 1 (.t 1)), none⟩, ⟨(some 16), (.ld none (.t 15)), none⟩, ⟨(some 17), (.len (.t 16)), none⟩, ⟨(some 18), (.mov (.c (.int .i64 0))), none⟩]) (.block 0 (.loop (.seq (.ops [⟨(some 19), (.bin .lss (.t 18) (.t 17)), none⟩]) (.seq (.cond (.t 19) .skip (.exit 0)) (.seq (.block 1 (.seq (.ops [⟨(some 20), (.idx 3 (.t 16) (.t 18)), none⟩, ⟨(some 21), (.ld (some 3) (.t 20)), none⟩, ⟨(some 4), (.alloc [(.int .i64 0), (.int .i64 0), (.int .i64 0)]), none⟩, ⟨none, (.st 3 (.t 4) (.t 21)), none⟩]) (.seq (.ops [⟨(some 22), (.fa 0 (.t 1)), none⟩, ⟨(some 23), (.ld none (.t 22)), none⟩, ⟨(some 24), (.ld (some 3) (.t 4)), none⟩, ⟨(some 25), (.call 53 [(.t 23), (.t 24)]), none⟩, ⟨(some 26), (.not (.t 25)), none⟩]) (.cond (.t 26) (.seq (.ops [⟨(some 2), (.mov (.c (.bool false))), none⟩]) .ret) .skip)))) (.ops [⟨(some 27), (.bin .add (.t 18) (.c (.int .i64 1))), none⟩, ⟨(some 18), (.mov (.t 27)), none⟩]))))))) (.seq (.ops [⟨(some 2), (.mov (.c (.bool true))), none⟩]) .ret))))
theorem cc55 : ccode Try.prog (min Try.f55.ntmps pbase) (Try.f55.body.getD .skip) = some ac55 := by kernel_rfl
def ac56 : ACode := (.seq (.ops [⟨(some 2), (.nils 3), none⟩]) (.seq (.ops [⟨(some 5), (.mov (.t 0)), none⟩, ⟨(some 6), (.len (.t 5)), none⟩, ⟨(some 7), (.mk 3 24 [(.int .i64 0), (.int .i64 0), (.int .i64 0)] (.t 6) (.t 6)), none⟩, ⟨(some 3), (.mov (.t 7)), none⟩]) (.seq (.seq (.ops [⟨(some 4), (.mov (.c (.int .i64 0))), none⟩]) (.block 0 (.loop (.seq (.seq (.ops [⟨(some 8), (.mov (.t 4)), none⟩, ⟨(some 9), (.mov (.t 0)), none⟩, ⟨(some 10), (.len (.t 9)), none⟩, ⟨(some 11), (.bin .lss (.t 8) (.t 10)), none⟩]) (.cond (.t 11) .skip (.exit 0))) (.seq (.block 1 (.ops [⟨(some 14), (.mov (.t 3)), none⟩, ⟨(some 15), (.mov (.t 4)), none⟩, ⟨(some 16), (.mov (.t 0)), none⟩, ⟨(some 17), (.mov (.t 4)), none⟩, ⟨(some 18), (.idx 3 (.t 16) (.t 17)), none⟩, ⟨(some 19), (.ld (some 3) (.t 18)), none⟩, ⟨(some 20), (.call 16 [(.t 19)]), none⟩, ⟨(some 21), (.idx 3 (.t 14) (.t 15)), none⟩, ⟨none, (.st 3 (.t 21) (.t 20)), none⟩])) (.ops [⟨(some 12), (.mov (.t 4)), none⟩, ⟨(some 13), (.bin .add (.t 12) (.c (.int .i64 1))), none⟩, ⟨(some 4), (.mov (.t 13)), none⟩])))))) (.seq (.ops [⟨(some 22), (.mov (.t 3)), none⟩, ⟨(some 2), (.mov (.t 22)), none⟩]) .ret))))
theorem cc56 : ccode Try.prog (min Try.f56.ntmps pbase) (Try.f56.body.getD .skip) = some ac56 := by kernel_rfl
def ac57 : ACode := (.seq (.ops [⟨(some 1), (.box 2 (.t 0)), none⟩, ⟨(some 2), (.alloc [(.slice none 0 0)]), none⟩, ⟨(some 3), (.alloc [(.bool false)]), none⟩]) (.seq (.seq (.ops [⟨(some 6), (.fa 0 (.t 1)), none⟩, ⟨(some 7), (.ld none (.t 6)), none⟩, ⟨(some 8), (.bin .lss (.t 7) (.c (.int .i64 1))), none⟩, ⟨(some 9), (.mov (.t 8)), none⟩, ⟨(some 10), (.fa 0 (.t 1)), (some (9, false))⟩, ⟨(some 11), (.ld none (.t 10)), (some (9, false))⟩, ⟨(some 12), (.bin .gtr (.t 11) (.c (.int .i64 5))), (some (9, false))⟩, ⟨(some 13), (.pick (.t 9) (.c (.bool true)) (.t 12)), none⟩, ⟨(some 14), (.mov (.t 13)), none⟩, ⟨(some 15), (.fa 1 (.t 1)), (some (14, false))⟩, ⟨(some 16), (.ld none (.t 15)), (some (14, false))⟩, ⟨(some 17), (.len (.t 16)), (some (14, false))⟩, ⟨(some 18), (.bin .gtr (.t 17) (.c (.int .i64 6))), (some (14, false))⟩, ⟨(some 19), (.pick (.t 14) (.c (.bool true)) (.t 18)), none⟩]) (.cond (.t 19) (.seq (.ops [⟨none, (.st 1 (.t 2) (.c (.slice none 0 0))), none⟩, ⟨none, (.st 1 (.t 3) (.c (.bool false))), none⟩]) .ret) .skip)) (.seq (.ops [⟨(some 20), (.mkf 74 0 [(.t 2), (.t 3)]), none⟩, ⟨none, .dead, none⟩]) (.seq (.ops [⟨(some 4), (.mov (.c (.func (.func 75) #[] #[]))), none⟩]) (.seq (.ops [⟨(some 21), (.mkf 77 0 [(.t 1)]), none⟩, ⟨(some 5), (.mov (.t 21)), none⟩]) (.seq (.ops [⟨(some 22), (.fa 0 (.t 1)), none⟩, ⟨(some 23), (.ld none (.t 22)), none⟩, ⟨(some 24), (.mov (.t 4)), none⟩, ⟨(some 25), (.mov (.t 5)), none⟩, ⟨(some 26), (.call 79 [(.t 23), (.t 24), (.t 25)]), none⟩, ⟨none, (.st 1 (.t 2) (.t 26)), none⟩, ⟨none, (.st 1 (.t 3) (.c (.bool true))), none⟩]) .ret))))))
def ac58 : ACode := (.seq (.ops [⟨(some 4), (.mov (.c (.bool false))), none⟩]) (.seq (.seq (.ops [⟨(some 6), (.mov (.t 0)), none⟩, ⟨(some 7), (.len (.t 6)), none⟩, ⟨(some 8), (.mov (.t 1)), none⟩, ⟨(some 9), (.len (.t 8)), none⟩, ⟨(some 10), (.bin .neq (.t 7) (.t 9)), none⟩]) (.cond (.t 10) (.seq (.ops [⟨(some 4), (.mov (.c (.bool false))), none⟩]) .ret) .skip)) (.seq (.seq (.ops [⟨(some 5), (.mov (.c (.int .i64 0))), none⟩]) (.block 0 (.loop (.seq (.seq (.ops [⟨(some 11), (.mov (.t 5)), none⟩, ⟨(some 12), (.mov (.t 0)), none⟩, ⟨(some 13), (.len (.t 12)), none⟩, ⟨(some 14), (.bin .lss (.t 11) (.t 13)), none⟩]) (.cond (.t 14) .skip (.exit 0))) (.seq (.block 1 (.seq (.tree (.take ⟨(some 17), (.mov (.t 0)), none⟩ (.take ⟨(some 18), (.mov (.t 5)), none⟩ (.take ⟨(some 19), (.idx 3 (.t 17) (.t 18)), none⟩ (.take ⟨(some 20), (.ld (some 3) (.t 19)), none⟩ (.take ⟨(some 21), (.mov (.t 1)), none⟩ (.take ⟨(some 22), (.mov (.t 5)), none⟩ (.take ⟨(some 23), (.idx 3 (.t 21) (.t 22)), none⟩ (.take ⟨(some 24), (.ld (some 3) (.t 23)), none⟩ (.take ⟨(some 25), (.call 80 [(.t 20), (.t 24)]), none⟩ (.take ⟨(some 26), (.not (.t 25)), none⟩ .done))))))))))) (.cond (.t 26) (.seq (.ops [⟨(some 4), (.mov (.c (.bool false))), none⟩]) .ret) .skip))) (.ops [⟨(some 15), (.mov (.t 5)), none⟩, ⟨(some 16), (.bin .add (.t 15) (.c (.int .i64 1))), none⟩, ⟨(some 5), (.mov (.t 16)), none⟩])))))) (.seq (.ops [⟨(some 4), (.mov (.c (.bool true))), none⟩]) .ret))))
theorem cc58 : ccode Try.prog (min Try.f58.ntmps pbase) (Try.f58.body.getD .skip) = some ac58 := by kernel_rfl
def ac59 : ACode := (.seq (.ops [⟨(some 4), (.nils 1), none⟩]) (.seq (.ops [⟨(some 5), (.alloc [(.slice none 0 0)]), none⟩]) (.seq (.ops [⟨(some 6), (.mov (.t 0)), none⟩, ⟨(some 7), (.mov (.t 1)), none⟩, ⟨(some 8), (.call 81 [(.t 6), (.t 7), (.c (.slice none 0 0)), (.t 5)]), none⟩]) (.seq (.ops [⟨(some 9), (.ld none (.t 5)), none⟩, ⟨(some 4), (.mov (.t 9)), none⟩]) .ret))))
theorem cc59 : ccode Try.prog (min Try.f59.ntmps pbase) (Try.f59.body.getD .skip) = some ac59 := by kernel_rfl
def ac60 : ACode := (.seq (.ops [⟨(some 4), (.mov (.c (.int .i64 0))), none⟩]) (.seq (.seq (.ops [⟨(some 5), (.mov (.c (.int .i64 0))), none⟩]) (.block 0 (.loop (.seq (.seq (.ops [⟨(some 6), (.mov (.t 5)), none⟩, ⟨(some 7), (.mov (.t 0)), none⟩, ⟨(some 8), (.len (.t 7)), none⟩, ⟨(some 9), (.bin .lss (.t 6) (.t 8)), none⟩]) (.cond (.t 9) .skip (.exit 0))) (.seq (.block 1 (.seq (.ops [⟨(some 12), (.mov (.t 0)), none⟩, ⟨(some 13), (.mov (.t 5)), none⟩, ⟨(some 14), (.mov (.t 1)), none⟩, ⟨(some 15), (.idx 3 (.t 12) (.t 13)), none⟩, ⟨(some 16), (.fa 0 (.t 15)), none⟩, ⟨none, (.st 1 (.t 16) (.t 14)), none⟩]) (.seq (.ops [⟨(some 17), (.mov (.t 1)), none⟩, ⟨(some 18), (.bin .add (.t 17) (.c (.int .i64 1))), none⟩, ⟨(some 1), (.mov (.t 18)), none⟩]) (.seq (.ops [⟨(some 19), (.mov (.t 0)), none⟩, ⟨(some 20), (.mov (.t 5)), none⟩, ⟨(some 21), (.mov (.t 1)), none⟩, ⟨(some 22), (.idx 3 (.t 19) (.t 20)), none⟩, ⟨(some 23), (.fa 1 (.t 22)), none⟩, ⟨none, (.st 1 (.t 23) (.t 21)), none⟩]) (.seq (.ops [⟨(some 24), (.mov (.t 1)), none⟩, ⟨(some 25), (.bin .add (.t 24) (.c (.int .i64 1))), none⟩, ⟨(some 1), (.mov (.t 25)), none⟩]) (.seq (.ops [⟨(some 26), (.mov (.t 0)), none⟩, ⟨(some 27), (.mov (.t 5)), none⟩, ⟨(some 28), (.mov (.t 1)), none⟩, ⟨(some 29), (.idx 3 (.t 26) (.t 27)), none⟩, ⟨(some 30), (.fa 2 (.t 29)), none⟩, ⟨none, (.st 1 (.t 30) (.t 28)), none⟩]) (.ops [⟨(some 31), (.mov (.t 1)), none⟩, ⟨(some 32), (.bin .add (.t 31) (.c (.int .i64 1))), none⟩, ⟨(some 1), (.mov (.t 32)), none⟩]))))))) (.ops [⟨(some 10), (.mov (.t 5)), none⟩, ⟨(some 11), (.bin .add (.t 10) (.c (.int .i64 1))), none⟩, ⟨(some 5), (.mov (.t 11)), none⟩])))))) (.seq (.ops [⟨(some 33), (.mov (.t 1)), none⟩, ⟨(some 4), (.mov (.t 33)), none⟩]) .ret)))
theorem cc60 : ccode Try.prog (min Try.f60.ntmps pbase) (Try.f60.body.getD .skip) = some ac60 := by kernel_rfl
def ac61 : ACode := (.seq (.ops [⟨(some 2), (.nils 1), none⟩]) (.seq (.ops [⟨(some 3), (.bsl 1 0 [(.int .i64 0)] []), none⟩, ⟨(some 4), (.mov (.t 0)), none⟩, ⟨(some 5), (.app 1 8 (.t 3) (.t 4)), none⟩, ⟨(some 2), (.mov (.t 5)), none⟩]) .ret))
theorem cc61 : ccode Try.prog (min Try.f61.ntmps pbase) (Try.f61.body.getD .skip) = some ac61 := by kernel_rfl
def ac62 : ACode := (.seq (.ops [⟨(some 4), (.mov (.c (.bool false))), none⟩]) (.seq (.ops [⟨(some 5), (.mov (.t 0)), none⟩, ⟨(some 6), (.mov (.t 1)), none⟩, ⟨(some 7), (.call 59 [(.t 5), (.t 6)]), none⟩, ⟨(some 8), (.len (.t 7)), none⟩, ⟨(some 9), (.bin .eql (.t 8) (.c (.int .i64 1))), none⟩, ⟨(some 4), (.mov (.t 9)), none⟩]) .ret))
theorem cc62 : ccode Try.prog (min Try.f62.ntmps pbase) (Try.f62.body.getD .skip) = some ac62 := by kernel_rfl
def ac65 : ACode := (.seq (.ops [⟨(some 6), (.mov (.c (.bool false))), none⟩]) (.seq (.ops [⟨(some 7), (.mov (.t 0)), none⟩, ⟨(some 8), (.mov (.t 1)), none⟩, ⟨(some 9), (.bin .geq (.t 7) (.t 8)), none⟩, ⟨(some 10), (.mov (.t 9)), none⟩, ⟨(some 11), (.mov (.t 0)), (some (10, true))⟩, ⟨(some 12), (.mov (.t 2)), (some (10, true))⟩, ⟨(some 13), (.bin .leq (.t 11) (.t 12)), (some (10, true))⟩, ⟨(some 14), (.pick (.t 10) (.t 13) (.c (.bool false))), none⟩, ⟨(some 6), (.mov (.t 14)), none⟩]) .ret))
theorem cc65 : ccode Try.prog (min Try.f65.ntmps pbase) (Try.f65.body.getD .skip) = some ac65 := by kernel_rfl
def ac67 : ACode := (.seq (.ops [⟨(some 3), (.box 2 (.t 0)), none⟩, ⟨(some 6), (.alloc [(.int .i64 0), (.slice none 0 0)]), none⟩]) (.seq (.tree (.take ⟨(some 7), (.fa 0 (.t 3)), none⟩ (.take ⟨(some 8), (.ld none (.t 7)), none⟩ (.take ⟨(some 9), (.fa 1 (.t 3)), none⟩ (.take ⟨(some 10), (.ld none (.t 9)), none⟩ (.take ⟨(some 11), (.mov (.t 1)), none⟩ (.take ⟨(some 12), (.mov (.t 2)), none⟩ (.take ⟨(some 13), (.mov (.t 2)), none⟩ (.take ⟨(some 14), (.pu (.cut4 3) [(.t 10), (.t 11), (.t 12), (.t 13)]), none⟩ (.take ⟨(some 15), (.pu (.bld [(.int .i64 0), (.slice none 0 0)] [(0, 1), (1, 1)]) [(.t 8), (.t 14)]), none⟩ (.take ⟨none, (.st 2 (.t 6) (.t 15)), none⟩ .done))))))))))) .ret))
theorem cc67 : ccode Try.prog (min Try.f67.ntmps pbase) (Try.f67.body.getD .skip) = some ac67 := by kernel_rfl
def ac68 : ACode := (.seq (.ops [⟨(some 4), (.mov (.c (.int .i64 0))), none⟩]) (.seq (.seq (.ops [⟨(some 6), (.mov (.t 0)), none⟩, ⟨(some 7), (.len (.t 6)), none⟩, ⟨(some 8), (.mov (.c (.int .i64 0))), none⟩]) (.block 0 (.loop (.seq (.ops [⟨(some 9), (.bin .lss (.t 8) (.t 7)), none⟩]) (.seq (.cond (.t 9) .skip (.exit 0)) (.seq (.block 1 (.seq (.ops [⟨(some 10), (.mov (.t 8)), none⟩, ⟨(some 5), (.mov (.t 10)), none⟩]) (.seq (.ops [⟨(some 11), (.mov (.t 1)), none⟩, ⟨(some 12), (.mov (.t 0)), none⟩, ⟨(some 13), (.mov (.t 5)), none⟩, ⟨(some 14), (.idx 1 (.t 12) (.t 13)), none⟩, ⟨(some 15), (.ld none (.t 14)), none⟩, ⟨(some 16), (.bin .eql (.t 11) (.t 15)), none⟩]) (.cond (.t 16) (.seq (.ops [⟨(some 17), (.mov (.t 5)), none⟩, ⟨(some 4), (.mov (.t 17)), none⟩]) .ret) .skip)))) (.ops [⟨(some 18), (.bin .add (.t 8) (.c (.int .i64 1))), none⟩, ⟨(some 8), (.mov (.t 18)), none⟩]))))))) (.seq (.ops [⟨(some 4), (.mov (.c (.int .i64 (-1)))), none⟩]) .ret)))
theorem cc68 : ccode Try.prog (min Try.f68.ntmps pbase) (Try.f68.body.getD .skip) = some ac68 := by kernel_rfl
def ac69 : ACode := (.seq (.ops [⟨(some 2), (.mov (.c (.int .i64 0))), none⟩]) (.seq (.seq (.ops [⟨(some 5), (.mov (.t 0)), none⟩, ⟨(some 6), (.len (.t 5)), none⟩, ⟨(some 7), (.bin .lss (.t 6) (.c (.int .i64 1))), none⟩]) (.cond (.t 7) (.ops [⟨(some 8), .dead, none⟩, ⟨none, .dead, none⟩]) .skip)) (.seq (.ops [⟨(some 9), (.mov (.t 0)), none⟩, ⟨(some 10), (.idx 1 (.t 9) (.c (.int .i64 0))), none⟩, ⟨(some 11), (.ld none (.t 10)), none⟩, ⟨(some 3), (.mov (.t 11)), none⟩]) (.seq (.seq (.ops [⟨(some 4), (.mov (.c (.int .i64 1))), none⟩]) (.block 0 (.loop (.seq (.seq (.ops [⟨(some 12), (.mov (.t 4)), none⟩, ⟨(some 13), (.mov (.t 0)), none⟩, ⟨(some 14), (.len (.t 13)), none⟩, ⟨(some 15), (.bin .lss (.t 12) (.t 14)), none⟩]) (.cond (.t 15) .skip (.exit 0))) (.seq (.block 1 (.ops [⟨(some 18), (.mov (.t 3)), none⟩, ⟨(some 19), (.mov (.t 0)), none⟩, ⟨(some 20), (.mov (.t 4)), none⟩, ⟨(some 21), (.idx 1 (.t 19) (.t 20)), none⟩, ⟨(some 22), (.ld none (.t 21)), none⟩, ⟨(some 23), (.pu (.mm false) [(.t 18), (.t 22)]), none⟩, ⟨(some 3), (.mov (.t 23)), none⟩])) (.ops [⟨(some 16), (.mov (.t 4)), none⟩, ⟨(some 17), (.bin .add (.t 16) (.c (.int .i64 1))), none⟩, ⟨(some 4), (.mov (.t 17)), none⟩])))))) (.seq (.ops [⟨(some 24), (.mov (.t 3)), none⟩, ⟨(some 2), (.mov (.t 24)), none⟩]) .ret)))))
theorem cc69 : ccode Try.prog (min Try.f69.ntmps pbase) (Try.f69.body.getD .skip) = some ac69 := by kernel_rfl
def ac70 : ACode := (.seq (.ops [⟨(some 2), (.mov (.c (.bool false))), none⟩]) (.seq (.ops [⟨(some 3), (.mov (.t 0)), none⟩, ⟨(some 4), (.call 83 [(.t 3)]), none⟩, ⟨(some 5), (.mov (.t 4)), none⟩, ⟨(some 6), (.mov (.t 0)), (some (5, true))⟩, ⟨(some 7), (.len (.t 6)), (some (5, true))⟩, ⟨(some 8), (.call 52 [(.t 7)]), (some (5, true))⟩, ⟨(some 9), (.pick (.t 5) (.t 8) (.c (.bool false))), none⟩, ⟨(some 2), (.mov (.t 9)), none⟩]) .ret))
theorem cc70 : ccode Try.prog (min Try.f70.ntmps pbase) (Try.f70.body.getD .skip) = some ac70 := by kernel_rfl
def ac71 : ACode := (.seq (.ops [⟨(some 2), (.box 3 (.t 0)), none⟩, ⟨(some 4), (.mov (.c (.bool false))), none⟩]) (.seq (.seq (.ops [⟨(some 7), (.fa 0 (.t 2)), none⟩, ⟨(some 8), (.ld none (.t 7)), none⟩]) (.block 0 (.seq (.ops [⟨(some 10), (.bin .eql (.t 8) (.c (.int .i64 0))), none⟩, ⟨(some 9), (.mov (.t 10)), none⟩]) (.cond (.t 9) (.seq (.tree (.take ⟨(some 11), (.mov (.t 1)), none⟩ (.take ⟨(some 12), (.fa 1 (.t 2)), none⟩ (.take ⟨(some 13), (.ld none (.t 12)), none⟩ (.take ⟨(some 14), (.idx 1 (.t 11) (.t 13)), none⟩ (.take ⟨(some 15), (.ld none (.t 14)), none⟩ (.take ⟨(some 16), (.fa 2 (.t 2)), none⟩ (.take ⟨(some 17), (.ld none (.t 16)), none⟩ (.take ⟨(some 18), (.bin .eql (.t 15) (.t 17)), none⟩ (.take ⟨(some 4), (.mov (.t 18)), none⟩ .done)))))))))) .ret) (.seq (.ops [⟨(some 20), (.bin .eql (.t 8) (.c (.int .i64 1))), none⟩, ⟨(some 19), (.mov (.t 20)), none⟩]) (.cond (.t 19) (.seq (.tree (.take ⟨(some 21), (.mov (.t 1)), none⟩ (.take ⟨(some 22), (.fa 1 (.t 2)), none⟩ (.take ⟨(some 23), (.ld none (.t 22)), none⟩ (.take ⟨(some 24), (.idx 1 (.t 21) (.t 23)), none⟩ (.take ⟨(some 25), (.ld none (.t 24)), none⟩ (.take ⟨(some 26), (.fa 2 (.t 2)), none⟩ (.take ⟨(some 27), (.ld none (.t 26)), none⟩ (.take ⟨(some 28), (.bin .neq (.t 25) (.t 27)), none⟩ (.take ⟨(some 4), (.mov (.t 28)), none⟩ .done)))))))))) .ret) (.seq (.ops [⟨(some 30), (.bin .eql (.t 8) (.c (.int .i64 2))), none⟩, ⟨(some 29), (.mov (.t 30)), none⟩]) (.cond (.t 29) (.seq (.tree (.take ⟨(some 31), (.mov (.t 1)), none⟩ (.take ⟨(some 32), (.call 84 [(.t 31)]), none⟩ (.take ⟨(some 33), (.len (.t 32)), none⟩ (.take ⟨(some 34), (.fa 1 (.t 2)), none⟩ (.take ⟨(some 35), (.ld none (.t 34)), none⟩ (.take ⟨(some 36), (.bin .eql (.t 33) (.t 35)), none⟩ (.take ⟨(some 4), (.mov (.t 36)), none⟩ .done)))))))) .ret) (.seq (.ops [⟨(some 38), (.bin .eql (.t 8) (.c (.int .i64 3))), none⟩, ⟨(some 37), (.mov (.t 38)), none⟩]) (.cond (.t 37) (.seq (.tree (.take ⟨(some 39), (.mov (.t 1)), none⟩ (.take ⟨(some 40), (.call 85 [(.t 39)]), none⟩ (.take ⟨(some 41), (.len (.t 40)), none⟩ (.take ⟨(some 42), (.fa 1 (.t 2)), none⟩ (.take ⟨(some 43), (.ld none (.t 42)), none⟩ (.take ⟨(some 44), (.bin .eql (.t 41) (.t 43)), none⟩ (.take ⟨(some 4), (.mov (.t 44)), none⟩ .done)))))))) .ret) (.seq (.ops [⟨(some 46), (.bin .eql (.t 8) (.c (.int .i64 4))), none⟩, ⟨(some 45), (.mov (.t 46)), none⟩]) (.cond (.t 45) (.seq (.tree (.take ⟨(some 47), (.mov (.t 1)), none⟩ (.take ⟨(some 48), (.fa 1 (.t 2)), none⟩ (.take ⟨(some 49), (.ld none (.t 48)), none⟩ (.take ⟨(some 50), (.idx 1 (.t 47) (.t 49)), none⟩ (.take ⟨(some 51), (.ld none (.t 50)), none⟩ (.take ⟨(some 52), (.fa 1 (.t 2)), none⟩ (.take ⟨(some 53), (.ld none (.t 52)), none⟩ (.take ⟨(some 54), (.bin .gtr (.t 51) (.t 53)), none⟩ (.take ⟨(some 55), (.fa 2 (.t 2)), none⟩ (.take ⟨(some 56), (.ld none (.t 55)), none⟩ (.take ⟨(some 57), (.bin .eql (.t 56) (.c (.int .i64 1))), none⟩ (.take ⟨(some 58), (.beq false (.t 54) (.t 57)), none⟩ (.take ⟨(some 4), (.mov (.t 58)), none⟩ .done)))))))))))))) .ret) .skip)))))))))))) (.seq (.ops [⟨(some 60), (.mov (.t 1)), none⟩, ⟨(some 61), (.call 86 [(.t 60)]), none⟩, ⟨(some 59), (.mov (.t 61)), none⟩, ⟨(some 62), (.ext (.t 59) 0), none⟩, ⟨(some 63), (.ext (.t 59) 1), none⟩, ⟨(some 5), (.mov (.t 62)), none⟩, ⟨(some 6), (.mov (.t 63)), none⟩]) (.seq (.ops [⟨(some 64), (.mov (.t 5)), none⟩, ⟨(some 65), (.fa 1 (.t 2)), none⟩, ⟨(some 66), (.ld none (.t 65)), none⟩, ⟨(some 67), (.bin .eql (.t 64) (.t 66)), none⟩, ⟨(some 4), (.mov (.t 67)), none⟩]) .ret))))
theorem cc71 : ccode Try.prog (min Try.f71.ntmps pbase) (Try.f71.body.getD .skip) = some ac71 := by kernel_rfl
def ac72 : ACode := (.seq (.ops [⟨(some 2), (.mov (.c (.bool false))), none⟩]) (.seq (.ops [⟨(some 3), (.mov (.t 0)), none⟩, ⟨(some 4), (.call 87 [(.t 3)]), none⟩, ⟨(some 5), (.mov (.t 4)), none⟩, ⟨(some 6), (.mov (.t 0)), (some (5, true))⟩, ⟨(some 7), (.len (.t 6)), (some (5, true))⟩, ⟨(some 8), (.bin .leq (.t 7) (.c (.int .i64 5))), (some (5, true))⟩, ⟨(some 9), (.pick (.t 5) (.t 8) (.c (.bool false))), none⟩, ⟨(some 2), (.mov (.t 9)), none⟩]) .ret))
theorem cc72 : ccode Try.prog (min Try.f72.ntmps pbase) (Try.f72.body.getD .skip) = some ac72 := by kernel_rfl
def ac73 : ACode := (.seq (.ops [⟨(some 2), (.box 3 (.t 0)), none⟩, ⟨(some 4), (.mov (.c (.bool false))), none⟩]) (.seq (.seq (.ops [⟨(some 6), (.ld (some 3) (.t 2)), none⟩, ⟨(some 7), (.mov (.t 1)), none⟩, ⟨(some 8), (.len (.t 7)), none⟩, ⟨(some 9), (.call 88 [(.t 6), (.t 8)]), none⟩, ⟨(some 10), (.not (.t 9)), none⟩]) (.cond (.t 10) (.ops [⟨(some 11), (.ld (some 3) (.t 2)), none⟩, ⟨(some 12), .dead, none⟩, ⟨none, .dead, none⟩]) .skip)) (.seq (.ops [⟨(some 13), (.mov (.t 1)), none⟩, ⟨(some 14), (.fa 0 (.t 2)), none⟩, ⟨(some 15), (.ld none (.t 14)), none⟩, ⟨(some 16), (.fa 1 (.t 2)), none⟩, ⟨(some 17), (.ld none (.t 16)), none⟩, ⟨(some 18), (.call 89 [(.t 13), (.t 15), (.t 17)]), none⟩, ⟨(some 5), (.mov (.t 18)), none⟩]) (.seq (.ops [⟨(some 19), (.fa 0 (.t 2)), none⟩, ⟨(some 20), (.ld none (.t 19)), none⟩]) (.block 0 (.seq (.seq (.ops [⟨(some 26), (.bin .eql (.t 20) (.c (.int .i64 0))), none⟩, ⟨(some 25), (.mov (.t 26)), none⟩]) (.cond (.t 25) .skip (.ops [⟨(some 27), (.bin .eql (.t 20) (.c (.int .i64 4))), none⟩, ⟨(some 25), (.mov (.t 27)), none⟩]))) (.cond (.t 25) (.seq (.ops [⟨(some 28), (.fa 2 (.t 2)), none⟩, ⟨(some 29), (.ld none (.t 28)), none⟩, ⟨(some 30), (.mov (.t 5)), none⟩, ⟨(some 31), (.bin .eql (.t 29) (.t 30)), none⟩, ⟨(some 4), (.mov (.t 31)), none⟩]) .ret) (.seq (.ops [⟨(some 33), (.bin .eql (.t 20) (.c (.int .i64 1))), none⟩, ⟨(some 32), (.mov (.t 33)), none⟩]) (.cond (.t 32) (.seq (.ops [⟨(some 34), (.fa 2 (.t 2)), none⟩, ⟨(some 35), (.ld none (.t 34)), none⟩, ⟨(some 36), (.mov (.t 5)), none⟩, ⟨(some 37), (.bin .neq (.t 35) (.t 36)), none⟩, ⟨(some 4), (.mov (.t 37)), none⟩]) .ret) (.seq (.ops [⟨(some 21), (.fa 1 (.t 2)), none⟩, ⟨(some 22), (.ld none (.t 21)), none⟩, ⟨(some 23), (.mov (.t 5)), none⟩, ⟨(some 24), (.bin .eql (.t 22) (.t 23)), none⟩, ⟨(some 4), (.mov (.t 24)), none⟩]) .ret))))))))))
theorem cc73 : ccode Try.prog (min Try.f73.ntmps pbase) (Try.f73.body.getD .skip) = some ac73 := by kernel_rfl
def ac75 : ACode := (.seq (.ops [⟨(some 4), (.mov (.c (.bool false))), none⟩]) (.seq (.ops [⟨(some 5), (.mov (.t 0)), none⟩, ⟨(some 6), (.mov (.t 1)), none⟩, ⟨(some 7), (.call 76 [(.t 5), (.t 6)]), none⟩, ⟨(some 8), (.not (.t 7)), none⟩, ⟨(some 4), (.mov (.t 8)), none⟩]) .ret))
theorem cc75 : ccode Try.prog (min Try.f75.ntmps pbase) (Try.f75.body.getD .skip) = some ac75 := by kernel_rfl
def ac76 : ACode := (.seq (.ops [⟨(some 4), (.mov (.c (.bool false))), none⟩]) (.seq (.ops [⟨(some 5), (.mov (.t 0)), none⟩, ⟨(some 6), (.mov (.t 1)), none⟩, ⟨(some 7), (.call 68 [(.t 5), (.t 6)]), none⟩, ⟨(some 8), (.bin .geq (.t 7) (.c (.int .i64 0))), none⟩, ⟨(some 4), (.mov (.t 8)), none⟩]) .ret))
theorem cc76 : ccode Try.prog (min Try.f76.ntmps pbase) (Try.f76.body.getD .skip) = some ac76 := by kernel_rfl
def ac77 : ACode := (.seq (.ops [⟨(some 3), (.mov (.c (.bool false))), none⟩]) (.seq (.ops [⟨(some 4), (.fa 1 (.t 1)), none⟩, ⟨(some 5), (.ld none (.t 4)), none⟩, ⟨(some 6), (.mov (.t 0)), none⟩, ⟨(some 7), (.call 78 [(.t 5), (.t 6)]), none⟩, ⟨(some 3), (.mov (.t 7)), none⟩]) .ret))
theorem cc77 : ccode Try.prog (min Try.f77.ntmps pbase) (Try.f77.body.getD .skip) = some ac77 := by kernel_rfl
def ac78 : ACode := (.seq (.ops [⟨(some 4), (.mov (.c (.bool false))), none⟩]) (.seq (.ops [⟨(some 5), (.mov (.c (.bool true))), none⟩]) (.seq (.seq (.ops [⟨(some 8), (.mov (.t 0)), none⟩, ⟨(some 9), (.len (.t 8)), none⟩, ⟨(some 10), (.mov (.c (.int .i64 0))), none⟩]) (.block 0 (.loop (.seq (.ops [⟨(some 11), (.bin .lss (.t 10) (.t 9)), none⟩]) (.seq (.cond (.t 11) .skip (.exit 0)) (.seq (.block 1 (.seq (.ops [⟨(some 12), (.idx 3 (.t 8) (.t 10)), none⟩, ⟨(some 13), (.ld (some 3) (.t 12)), none⟩, ⟨(some 7), (.alloc [(.int .i64 0), (.int .i64 0), (.int .i64 0)]), none⟩, ⟨none, (.st 3 (.t 7) (.t 13)), none⟩]) (.ops [⟨(some 14), (.ld (some 3) (.t 7)), none⟩, ⟨(some 15), (.mov (.t 1)), none⟩, ⟨(some 16), (.call 73 [(.t 14), (.t 15)]), none⟩, ⟨(some 17), (.mov (.t 16)), none⟩, ⟨(some 18), (.mov (.t 5)), (some (17, true))⟩, ⟨(some 19), (.pick (.t 17) (.t 18) (.c (.bool false))), none⟩, ⟨(some 5), (.mov (.t 19)), none⟩]))) (.ops [⟨(some 20), (.bin .add (.t 10) (.c (.int .i64 1))), none⟩, ⟨(some 10), (.mov (.t 20)), none⟩]))))))) (.seq (.ops [⟨(some 21), (.mov (.t 5)), none⟩, ⟨(some 4), (.mov (.t 21)), none⟩]) .ret))))
theorem cc78 : ccode Try.prog (min Try.f78.ntmps pbase) (Try.f78.body.getD .skip) = some ac78 := by kernel_rfl
def ac79 : ACode := (.seq (.ops [⟨(some 6), (.nils 1), none⟩]) (.seq (.ops [⟨(some 7), (.nils 1), none⟩]) (.seq (.seq (.ops [⟨(some 11), (.mov (.t 0)), none⟩, ⟨(some 12), (.mov (.t 1)), none⟩, ⟨(some 13), (.call 90 [(.t 11), (.t 12)]), none⟩, ⟨(some 10), (.mov (.t 13)), none⟩, ⟨(some 14), (.ext (.t 10) 0), none⟩, ⟨(some 15), (.ext (.t 10) 1), none⟩, ⟨(some 8), (.mov (.t 14)), none⟩, ⟨(some 9), (.mov (.t 15)), none⟩]) (.block 0 (.loop (.seq (.seq (.ops [⟨(some 16), (.mov (.t 9)), none⟩]) (.cond (.t 16) .skip (.exit 0))) (.seq (.block 1 (.seq (.ops [⟨(some 23), (.mov (.t 2)), none⟩, ⟨(some 24), (.mov (.t 8)), none⟩, ⟨(some 25), (.callv (.t 23) [(.t 24)]), none⟩]) (.cond (.t 25) (.ops [⟨(some 26), (.mov (.t 7)), none⟩, ⟨(some 27), (.mov (.t 8)), none⟩, ⟨(some 28), (.bsl 1 1 [(.slice none 0 0)] [(0, (.t 27))]), none⟩, ⟨(some 29), (.app 1 24 (.t 26) (.t 28)), none⟩, ⟨(some 7), (.mov (.t 29)), none⟩]) .skip))) (.ops [⟨(some 18), (.mov (.t 8)), none⟩, ⟨(some 19), (.mov (.t 1)), none⟩, ⟨(some 20), (.call 91 [(.t 18), (.t 19)]), none⟩, ⟨(some 17), (.mov (.t 20)), none⟩, ⟨(some 21), (.ext (.t 17) 0), none⟩, ⟨(some 22), (.ext (.t 17) 1), none⟩, ⟨(some 8), (.mov (.t 21)), none⟩, ⟨(some 9), (.mov (.t 22)), none⟩])))))) (.seq (.ops [⟨(some 30), (.mov (.t 7)), none⟩, ⟨(some 6), (.mov (.t 30)), none⟩]) .ret))))
theorem cc79 : ccode Try.prog (min Try.f79.ntmps pbase) (Try.f79.body.getD .skip) = some ac79 := by kernel_rfl
def ac80 : ACode := (.seq (.ops [⟨(some 2), (.box 3 (.t 0)), none⟩, ⟨(some 3), (.box 3 (.t 1)), none⟩, ⟨(some 4), (.mov (.c (.bool false))), none⟩]) (.seq (.seq (.ops [⟨(some 5), (.fa 0 (.t 2)), none⟩, ⟨(some 6), (.ld none (.t 5)), none⟩, ⟨(some 7), (.fa 0 (.t 3)), none⟩, ⟨(some 8), (.ld none (.t 7)), none⟩, ⟨(some 9), (.bin .neq (.t 6) (.t 8)), none⟩]) (.cond (.t 9) (.seq (.ops [⟨(some 4), (.mov (.c (.bool false))), none⟩]) .ret) .skip)) (.seq (.seq (.ops [⟨(some 10), (.fa 1 (.t 2)), none⟩, ⟨(some 11), (.ld none (.t 10)), none⟩, ⟨(some 12), (.fa 1 (.t 3)), none⟩, ⟨(some 13), (.ld none (.t 12)), none⟩, ⟨(some 14), (.bin .neq (.t 11) (.t 13)), none⟩]) (.cond (.t 14) (.seq (.ops [⟨(some 4), (.mov (.c (.bool false))), none⟩]) .ret) .skip)) (.seq (.seq (.ops [⟨(some 15), (.fa 2 (.t 2)), none⟩, ⟨(some 16), (.ld none (.t 15)), none⟩, ⟨(some 17), (.fa 2 (.t 3)), none⟩, ⟨(some 18), (.ld none (.t 17)), none⟩, ⟨(some 19), (.bin .neq (.t 16) (.t 18)), none⟩]) (.cond (.t 19) (.seq (.ops [⟨(some 4), (.mov (.c (.bool false))), none⟩]) .ret) .skip)) (.seq (.ops [⟨(some 4), (.mov (.c (.bool true))), none⟩]) .ret)))))
theorem cc80 : ccode Try.prog (min Try.f80.ntmps pbase) (Try.f80.body.getD .skip) = some ac80 := by kernel_rfl
def ac81 : ACode := (.seq (.seq (.ops [⟨(some 11), (.mov (.t 2)), none⟩, ⟨(some 12), (.len (.t 11)), none⟩, ⟨(some 13), (.mov (.t 0)), none⟩, ⟨(some 14), (.bin .lss (.t 12) (.t 13)), none⟩]) (.cond (.t 14) (.seq (.seq (.ops [⟨(some 8), (.mov (.c (.int .i64 0))), none⟩]) (.block 0 (.loop (.seq (.seq (.ops [⟨(some 15), (.mov (.t 8)), none⟩, ⟨(some 16), (.mov (.t 0)), none⟩, ⟨(some 17), (.bin .lss (.t 15) (.t 16)), none⟩]) (.cond (.t 17) .skip (.exit 0))) (.seq (.block 1 (.seq (.ops [⟨(some 20), (.mov (.t 2)), none⟩, ⟨(some 21), (.mov (.t 8)), none⟩, ⟨(some 22), (.call 92 [(.t 20), (.t 21)]), none⟩, ⟨(some 23), (.not (.t 22)), none⟩]) (.cond (.t 23) (.ops [⟨(some 24), (.mov (.t 0)), none⟩, ⟨(some 25), (.mov (.t 1)), none⟩, ⟨(some 26), (.mov (.t 2)), none⟩, ⟨(some 27), (.call 61 [(.t 26)]), none⟩, ⟨(some 28), (.mov (.t 8)), none⟩, ⟨(some 29), (.bsl 1 1 [(.int .i64 0)] [(0, (.t 28))]), none⟩, ⟨(some 30), (.app 1 8 (.t 27) (.t 29)), none⟩, ⟨(some 31), (.mov (.t 3)), none⟩, ⟨(some 32), (.call 81 [(.t 24), (.t 25), (.t 30), (.t 31)]), none⟩]) .skip))) (.ops [⟨(some 18), (.mov (.t 8)), none⟩, ⟨(some 19), (.bin .add (.t 18) (.c (.int .i64 1))), none⟩, ⟨(some 8), (.mov (.t 19)), none⟩])))))) .ret) .skip)) (.seq (.seq (.ops [⟨(some 33), (.mov (.t 1)), none⟩, ⟨(some 34), (.len (.t 33)), none⟩, ⟨(some 35), (.mov (.c (.int .i64 0))), none⟩]) (.block 2 (.loop (.seq (.ops [⟨(some 36), (.bin .lss (.t 35) (.t 34)), none⟩]) (.seq (.cond (.t 36) .skip (.exit 2)) (.seq (.block 3 (.seq (.ops [⟨(some 37), (.idx 3 (.t 33) (.t 35)), none⟩, ⟨(some 38), (.ld (some 3) (.t 37)), none⟩, ⟨(some 10), (.alloc [(.int .i64 0), (.int .i64 0), (.int .i64 0)]), none⟩, ⟨none, (.st 3 (.t 10) (.t 38)), none⟩]) (.seq (.ops [⟨(some 39), (.ld (some 3) (.t 10)), none⟩, ⟨(some 40), (.mov (.t 2)), none⟩, ⟨(some 41), (.call 71 [(.t 39), (.t 40)]), none⟩, ⟨(some 42), (.not (.t 41)), none⟩]) (.cond (.t 42) .ret .skip)))) (.ops [⟨(some 43), (.bin .add (.t 35) (.c (.int .i64 1))), none⟩, ⟨(some 35), (.mov (.t 43)), none⟩]))))))) (.ops [⟨(some 44), (.mov (.t 3)), none⟩, ⟨(some 45), (.mov (.t 3)), none⟩, ⟨(some 46), (.nchk (.t 45)), none⟩, ⟨(some 47), (.ld none (.t 46)), none⟩, ⟨(some 48), (.mov (.t 2)), none⟩, ⟨(some 49), (.bsl 1 1 [(.slice none 0 0)] [(0, (.t 48))]), none⟩, ⟨(some 50), (.app 1 24 (.t 47) (.t 49)), none⟩, ⟨(some 51), (.nchk (.t 44)), none⟩, ⟨none, (.st 1 (.t 51) (.t 50)), none⟩])))
theorem cc81 : ccode Try.prog (min Try.f81.ntmps pbase) (Try.f81.body.getD .skip) = some ac81 := by kernel_rfl
def ac83 : ACode := (.seq (.ops [⟨(some 2), (.mov (.c (.bool false))), none⟩]) (.seq (.seq (.ops [⟨(some 5), (.mov (.t 0)), none⟩, ⟨(some 6), (.len (.t 5)), none⟩, ⟨(some 7), (.call 65 [(.t 6), (.c (.int .i64 1)), (.c (.int .i64 12))]), none⟩, ⟨(some 8), (.not (.t 7)), none⟩, ⟨(some 9), (.mov (.t 8)), none⟩, ⟨(some 10), (.mov (.t 0)), (some (9, false))⟩, ⟨(some 11), (.mov (.t 0)), (some (9, false))⟩, ⟨(some 12), (.len (.t 11)), (some (9, false))⟩, ⟨(some 13), (.bin .sub (.t 12) (.c (.int .i64 1))), (some (9, false))⟩, ⟨(some 14), (.call 94 [(.t 10), (.c (.int .i64 0)), (.t 13)]), (some (9, false))⟩, ⟨(some 15), (.not (.t 14)), (some (9, false))⟩, ⟨(some 16), (.pick (.t 9) (.c (.bool true)) (.t 15)), none⟩]) (.cond (.t 16) (.seq (.ops [⟨(some 2), (.mov (.c (.bool false))), none⟩]) .ret) .skip)) (.seq (.seq (.ops [⟨(some 17), (.mov (.t 0)), none⟩, ⟨(some 18), (.len (.t 17)), none⟩, ⟨(some 19), (.mov (.c (.int .i64 0))), none⟩]) (.block 0 (.loop (.seq (.ops [⟨(some 20), (.bin .lss (.t 19) (.t 18)), none⟩]) (.seq (.cond (.t 20) .skip (.exit 0)) (.seq (.block 1 (.seq (.ops [⟨(some 21), (.mov (.t 19)), none⟩, ⟨(some 22), (.idx 1 (.t 17) (.t 19)), none⟩, ⟨(some 23), (.ld none (.t 22)), none⟩, ⟨(some 3), (.mov (.t 21)), none⟩, ⟨(some 4), (.mov (.t 23)), none⟩]) (.seq (.ops [⟨(some 24), (.mov (.t 0)), none⟩, ⟨(some 25), (.mov (.t 3)), none⟩, ⟨(some 26), (.cut 1 (.t 24) none (some (.t 25))), none⟩, ⟨(some 27), (.mov (.t 4)), none⟩, ⟨(some 28), (.call 92 [(.t 26), (.t 27)]), none⟩]) (.cond (.t 28) (.seq (.ops [⟨(some 2), (.mov (.c (.bool false))), none⟩]) .ret) .skip)))) (.ops [⟨(some 29), (.bin .add (.t 19) (.c (.int .i64 1))), none⟩, ⟨(some 19), (.mov (.t 29)), none⟩]))))))) (.seq (.ops [⟨(some 2), (.mov (.c (.bool true))), none⟩]) .ret))))
theorem cc83 : ccode Try.prog (min Try.f83.ntmps pbase) (Try.f83.body.getD .skip) = some ac83 := by kernel_rfl
def ac84 : ACode := (.seq (.ops [⟨(some 2), (.nils 1), none⟩]) (.seq (.ops [⟨(some 3), (.nils 1), none⟩]) (.seq (.seq (.ops [⟨(some 6), (.mov (.t 0)), none⟩, ⟨(some 7), (.len (.t 6)), none⟩, ⟨(some 8), (.mov (.c (.int .i64 0))), none⟩]) (.block 0 (.loop (.seq (.ops [⟨(some 9), (.bin .lss (.t 8) (.t 7)), none⟩]) (.seq (.cond (.t 9) .skip (.exit 0)) (.seq (.block 1 (.seq (.ops [⟨(some 10), (.mov (.t 8)), none⟩, ⟨(some 11), (.idx 1 (.t 6) (.t 8)), none⟩, ⟨(some 12), (.ld none (.t 11)), none⟩, ⟨(some 4), (.mov (.t 10)), none⟩, ⟨(some 5), (.mov (.t 12)), none⟩]) (.seq (.ops [⟨(some 13), (.mov (.t 4)), none⟩, ⟨(some 14), (.mov (.t 5)), none⟩, ⟨(some 15), (.bin .eql (.t 13) (.t 14)), none⟩]) (.cond (.t 15) (.ops [⟨(some 16), (.mov (.t 3)), none⟩, ⟨(some 17), (.mov (.t 4)), none⟩, ⟨(some 18), (.bsl 1 1 [(.int .i64 0)] [(0, (.t 17))]), none⟩, ⟨(some 19), (.app 1 8 (.t 16) (.t 18)), none⟩, ⟨(some 3), (.mov (.t 19)), none⟩]) .skip)))) (.ops [⟨(some 20), (.bin .add (.t 8) (.c (.int .i64 1))), none⟩, ⟨(some 8), (.mov (.t 20)), none⟩]))))))) (.seq (.ops [⟨(some 21), (.mov (.t 3)), none⟩, ⟨(some 2), (.mov (.t 21)), none⟩]) .ret))))
theorem cc84 : ccode Try.prog (min Try.f84.ntmps pbase) (Try.f84.body.getD .skip) = some ac84 := by kernel_rfl
def ac85 : ACode := (.seq (.ops [⟨(some 2), (.nils 1), none⟩]) (.seq (.ops [⟨(some 8), (.mov (.t 0)), none⟩, ⟨(some 9), (.len (.t 8)), none⟩, ⟨(some 10), (.mk 1 1 [(.bool false)] (.t 9) (.t 9)), none⟩, ⟨(some 3), (.mov (.t 10)), none⟩]) (.seq (.ops [⟨(some 4), (.nils 1), none⟩]) (.seq (.seq (.ops [⟨(some 11), (.mov (.t 0)), none⟩, ⟨(some 12), (.len (.t 11)), none⟩, ⟨(some 13), (.mov (.c (.int .i64 0))), none⟩]) (.block 0 (.loop (.seq (.ops [⟨(some 14), (.bin .lss (.t 13) (.t 12)), none⟩]) (.seq (.cond (.t 14) .skip (.exit 0)) (.seq (.block 1 (.seq (.ops [⟨(some 15), (.mov (.t 13)), none⟩, ⟨(some 5), (.mov (.t 15)), none⟩]) (.seq (.seq (.ops [⟨(some 16), (.mov (.t 3)), none⟩, ⟨(some 17), (.mov (.t 5)), none⟩, ⟨(some 18), (.idx 1 (.t 16) (.t 17)), none⟩, ⟨(some 19), (.ld none (.t 18)), none⟩]) (.cond (.t 19) (.exit 1) .skip)) (.seq (.ops [⟨(some 6), (.nils 1), none⟩]) (.seq (.seq (.ops [⟨(some 20), (.mov (.t 5)), none⟩, ⟨(some 7), (.mov (.t 20)), none⟩]) (.block 2 (.loop (.seq (.seq (.ops [⟨(some 21), (.mov (.t 3)), none⟩, ⟨(some 22), (.mov (.t 7)), none⟩, ⟨(some 23), (.idx 1 (.t 21) (.t 22)), none⟩, ⟨(some 24), (.ld none (.t 23)), none⟩, ⟨(some 25), (.not (.t 24)), none⟩]) (.cond (.t 25) .skip (.exit 2))) (.seq (.block 3 (.seq (.ops [⟨(some 30), (.mov (.t 3)), none⟩, ⟨(some 31), (.mov (.t 7)), none⟩, ⟨(some 32), (.idx 1 (.t 30) (.t 31)), none⟩, ⟨none, (.st 1 (.t 32) (.c (.bool true))), none⟩]) (.ops [⟨(some 33), (.mov (.t 6)), none⟩, ⟨(some 34), (.mov (.t 7)), none⟩, ⟨(some 35), (.bsl 1 1 [(.int .i64 0)] [(0, (.t 34))]), none⟩, ⟨(some 36), (.app 1 8 (.t 33) (.t 35)), none⟩, ⟨(some 6), (.mov (.t 36)), none⟩]))) (.ops [⟨(some 26), (.mov (.t 0)), none⟩, ⟨(some 27), (.mov (.t 7)), none⟩, ⟨(some 28), (.idx 1 (.t 26) (.t 27)), none⟩, ⟨(some 29), (.ld none (.t 28)), none⟩, ⟨(some 7), (.mov (.t 29)), none⟩])))))) (.ops [⟨(some 37), (.mov (.t 4)), none⟩, ⟨(some 38), (.mov (.t 6)), none⟩, ⟨(some 39), (.bsl 1 1 [(.slice none 0 0)] [(0, (.t 38))]), none⟩, ⟨(some 40), (.app 1 24 (.t 37) (.t 39)), none⟩, ⟨(some 4), (.mov (.t 40)), none⟩])))))) (.ops [⟨(some 41), (.bin .add (.t 13) (.c (.int .i64 1))), none⟩, ⟨(some 13), (.mov (.t 41)), none⟩]))))))) (.seq (.ops [⟨(some 42), (.mov (.t 4)), none⟩, ⟨(some 2), (.mov (.t 42)), none⟩]) .ret)))))
theorem cc85 : ccode Try.prog (min Try.f85.ntmps pbase) (Try.f85.body.getD .skip) = some ac85 := by kernel_rfl
def ac86 : ACode := (.seq (.ops [⟨(some 2), (.mov (.c (.int .i64 0))), none⟩, ⟨(some 3), (.mov (.c (.bool false))), none⟩]) (.seq (.seq (.ops [⟨(some 9), (.mov (.t 0)), none⟩, ⟨(some 10), (.call 83 [(.t 9)]), none⟩, ⟨(some 11), (.not (.t 10)), none⟩]) (.cond (.t 11) (.seq (.ops [⟨(some 2), (.mov (.c (.int .i64 0))), none⟩, ⟨(some 3), (.mov (.c (.bool false))), none⟩]) .ret) .skip)) (.seq (.ops [⟨(some 4), (.mov (.c (.int .i64 1))), none⟩]) (.seq (.seq (.ops [⟨(some 12), (.mov (.t 0)), none⟩, ⟨(some 13), (.call 85 [(.t 12)]), none⟩, ⟨(some 14), (.len (.t 13)), none⟩, ⟨(some 15), (.mov (.c (.int .i64 0))), none⟩]) (.block 0 (.loop (.seq (.ops [⟨(some 16), (.bin .lss (.t 15) (.t 14)), none⟩]) (.seq (.cond (.t 16) .skip (.exit 0)) (.seq (.block 1 (.seq (.ops [⟨(some 17), (.idx 1 (.t 13) (.t 15)), none⟩, ⟨(some 18), (.ld none (.t 17)), none⟩, ⟨(some 6), (.mov (.t 18)), none⟩]) (.seq (.ops [⟨(some 19), (.mov (.t 4)), none⟩, ⟨(some 20), (.mov (.t 6)), none⟩, ⟨(some 21), (.len (.t 20)), none⟩, ⟨(some 7), (.mov (.t 19)), none⟩, ⟨(some 8), (.mov (.t 21)), none⟩]) (.seq (.block 2 (.loop (.seq (.seq (.ops [⟨(some 22), (.mov (.t 8)), none⟩, ⟨(some 23), (.bin .gtr (.t 22) (.c (.int .i64 0))), none⟩]) (.cond (.t 23) .skip (.exit 2))) (.block 3 (.tree (.take ⟨(some 24), (.mov (.t 8)), none⟩ (.take ⟨(some 25), (.mov (.t 7)), none⟩ (.take ⟨(some 26), (.mov (.t 8)), none⟩ (.take ⟨(some 27), (.bin .rem (.t 25) (.t 26)), none⟩ (.take ⟨(some 7), (.mov (.t 24)), none⟩ (.take ⟨(some 8), (.mov (.t 27)), none⟩ .done))))))))))) (.ops [⟨(some 28), (.mov (.t 4)), none⟩, ⟨(some 29), (.mov (.t 7)), none⟩, ⟨(some 30), (.bin .quo (.t 28) (.t 29)), none⟩, ⟨(some 31), (.mov (.t 6)), none⟩, ⟨(some 32), (.len (.t 31)), none⟩, ⟨(some 33), (.bin .mul (.t 30) (.t 32)), none⟩, ⟨(some 4), (.mov (.t 33)), none⟩]))))) (.ops [⟨(some 34), (.bin .add (.t 15) (.c (.int .i64 1))), none⟩, ⟨(some 15), (.mov (.t 34)), none⟩]))))))) (.seq (.ops [⟨(some 35), (.mov (.t 4)), none⟩, ⟨(some 2), (.mov (.t 35)), none⟩, ⟨(some 3), (.mov (.c (.bool true))), none⟩]) .ret)))))
theorem cc86 : ccode Try.prog (min Try.f86.ntmps pbase) (Try.f86.body.getD .skip) = some ac86 := by kernel_rfl
def ac87 : ACode := (.seq (.ops [⟨(some 2), (.mov (.c (.bool false))), none⟩]) (.seq (.ops [⟨(some 3), (.mov (.t 0)), none⟩, ⟨(some 4), (.len (.t 3)), none⟩, ⟨(some 5), (.call 95 [(.t 4)]), none⟩, ⟨(some 6), (.mov (.t 5)), none⟩, ⟨(some 7), (.mov (.t 0)), (some (6, true))⟩, ⟨(some 8), (.mov (.t 0)), (some (6, true))⟩, ⟨(some 9), (.len (.t 8)), (some (6, true))⟩, ⟨(some 10), (.call 96 [(.t 7), (.t 9)]), (some (6, true))⟩, ⟨(some 11), (.pick (.t 6) (.t 10) (.c (.bool false))), none⟩, ⟨(some 2), (.mov (.t 11)), none⟩]) .ret))
theorem cc87 : ccode Try.prog (min Try.f87.ntmps pbase) (Try.f87.body.getD .skip) = some ac87 := by kernel_rfl
def ac88 : ACode := (.seq (.ops [⟨(some 2), (.box 3 (.t 0)), none⟩, ⟨(some 4), (.mov (.c (.bool false))), none⟩]) (.seq (.ops [⟨(some 5), (.fa 0 (.t 2)), none⟩, ⟨(some 6), (.ld none (.t 5)), none⟩]) (.block 0 (.seq (.seq (.ops [⟨(some 8), (.bin .eql (.t 6) (.c (.int .i64 0))), none⟩, ⟨(some 7), (.mov (.t 8)), none⟩]) (.cond (.t 7) .skip (.ops [⟨(some 9), (.bin .eql (.t 6) (.c (.int .i64 1))), none⟩, ⟨(some 7), (.mov (.t 9)), none⟩]))) (.cond (.t 7) (.seq (.ops [⟨(some 10), (.fa 1 (.t 2)), none⟩, ⟨(some 11), (.ld none (.t 10)), none⟩, ⟨(some 12), (.mov (.t 1)), none⟩, ⟨(some 13), (.call 97 [(.t 11), (.t 12)]), none⟩, ⟨(some 14), (.mov (.t 13)), none⟩, ⟨(some 15), (.fa 2 (.t 2)), (some (14, true))⟩, ⟨(some 16), (.ld none (.t 15)), (some (14, true))⟩, ⟨(some 17), (.mov (.t 1)), (some (14, true))⟩, ⟨(some 18), (.call 97 [(.t 16), (.t 17)]), (some (14, true))⟩, ⟨(some 19), (.pick (.t 14) (.t 18) (.c (.bool false))), none⟩, ⟨(some 4), (.mov (.t 19)), none⟩]) .ret) (.seq (.ops [⟨(some 21), (.bin .eql (.t 6) (.c (.int .i64 2))), none⟩, ⟨(some 20), (.mov (.t 21)), none⟩]) (.cond (.t 20) (.seq (.ops [⟨(some 22), (.fa 1 (.t 2)), none⟩, ⟨(some 23), (.ld none (.t 22)), none⟩, ⟨(some 24), (.bin .geq (.t 23) (.c (.int .i64 0))), none⟩, ⟨(some 25), (.mov (.t 24)), none⟩, ⟨(some 26), (.fa 1 (.t 2)), (some (25, true))⟩, ⟨(some 27), (.ld none (.t 26)), (some (25, true))⟩, ⟨(some 28), (.mov (.t 1)), (some (25, true))⟩, ⟨(some 29), (.bin .leq (.t 27) (.t 28)), (some (25, true))⟩, ⟨(some 30), (.pick (.t 25) (.t 29) (.c (.bool false))), none⟩, ⟨(some 31), (.mov (.t 30)), none⟩, ⟨(some 32), (.fa 2 (.t 2)), (some (31, true))⟩, ⟨(some 33), (.ld none (.t 32)), (some (31, true))⟩, ⟨(some 34), (.bin .eql (.t 33) (.c (.int .i64 0))), (some (31, true))⟩, ⟨(some 35), (.pick (.t 31) (.t 34) (.c (.bool false))), none⟩, ⟨(some 4), (.mov (.t 35)), none⟩]) .ret) (.seq (.ops [⟨(some 37), (.bin .eql (.t 6) (.c (.int .i64 3))), none⟩, ⟨(some 36), (.mov (.t 37)), none⟩]) (.cond (.t 36) (.seq (.ops [⟨(some 38), (.fa 1 (.t 2)), none⟩, ⟨(some 39), (.ld none (.t 38)), none⟩, ⟨(some 40), (.bin .geq (.t 39) (.c (.int .i64 1))), none⟩, ⟨(some 41), (.mov (.t 40)), none⟩, ⟨(some 42), (.fa 1 (.t 2)), (some (41, true))⟩, ⟨(some 43), (.ld none (.t 42)), (some (41, true))⟩, ⟨(some 44), (.mov (.t 1)), (some (41, true))⟩, ⟨(some 45), (.bin .leq (.t 43) (.t 44)), (some (41, true))⟩, ⟨(some 46), (.pick (.t 41) (.t 45) (.c (.bool false))), none⟩, ⟨(some 47), (.mov (.t 46)), none⟩, ⟨(some 48), (.fa 2 (.t 2)), (some (47, true))⟩, ⟨(some 49), (.ld none (.t 48)), (some (47, true))⟩, ⟨(some 50), (.bin .eql (.t 49) (.c (.int .i64 0))), (some (47, true))⟩, ⟨(some 51), (.pick (.t 47) (.t 50) (.c (.bool false))), none⟩, ⟨(some 4), (.mov (.t 51)), none⟩]) .ret) (.seq (.ops [⟨(some 53), (.bin .eql (.t 6) (.c (.int .i64 4))), none⟩, ⟨(some 52), (.mov (.t 53)), none⟩]) (.cond (.t 52) (.seq (.ops [⟨(some 54), (.fa 1 (.t 2)), none⟩, ⟨(some 55), (.ld none (.t 54)), none⟩, ⟨(some 56), (.mov (.t 1)), none⟩, ⟨(some 57), (.call 97 [(.t 55), (.t 56)]), none⟩, ⟨(some 58), (.mov (.t 57)), none⟩, ⟨(some 59), (.fa 2 (.t 2)), (some (58, true))⟩, ⟨(some 60), (.ld none (.t 59)), (some (58, true))⟩, ⟨(some 61), (.bin .eql (.t 60) (.c (.int .i64 0))), (some (58, true))⟩, ⟨(some 62), (.mov (.t 61)), (some (58, true))⟩, ⟨(some 63), (.fa 2 (.t 2)), (some (62, false))⟩, ⟨(some 64), (.ld none (.t 63)), (some (62, false))⟩, ⟨(some 65), (.bin .eql (.t 64) (.c (.int .i64 1))), (some (62, false))⟩, ⟨(some 66), (.pick (.t 62) (.c (.bool true)) (.t 65)), (some (58, true))⟩, ⟨(some 67), (.pick (.t 58) (.t 66) (.c (.bool false))), none⟩, ⟨(some 4), (.mov (.t 67)), none⟩]) .ret) (.seq (.ops [⟨(some 69), (.bin .eql (.t 6) (.c (.int .i64 5))), none⟩, ⟨(some 68), (.mov (.t 69)), none⟩]) (.cond (.t 68) (.seq (.ops [⟨(some 70), (.fa 1 (.t 2)), none⟩, ⟨(some 71), (.ld none (.t 70)), none⟩, ⟨(some 72), (.bin .geq (.t 71) (.c (.int .i64 1))), none⟩, ⟨(some 73), (.mov (.t 72)), none⟩, ⟨(some 74), (.fa 1 (.t 2)), (some (73, true))⟩, ⟨(some 75), (.ld none (.t 74)), (some (73, true))⟩, ⟨(some 76), (.bin .leq (.t 75) (.c (.int .i64 6))), (some (73, true))⟩, ⟨(some 77), (.pick (.t 73) (.t 76) (.c (.bool false))), none⟩, ⟨(some 78), (.mov (.t 77)), none⟩, ⟨(some 79), (.fa 2 (.t 2)), (some (78, true))⟩, ⟨(some 80), (.ld none (.t 79)), (some (78, true))⟩, ⟨(some 81), (.bin .eql (.t 80) (.c (.int .i64 0))), (some (78, true))⟩, ⟨(some 82), (.pick (.t 78) (.t 81) (.c (.bool false))), none⟩, ⟨(some 4), (.mov (.t 82)), none⟩]) .ret) (.seq (.ops [⟨(some 4), (.mov (.c (.bool false))), none⟩]) .ret))))))))))))))
theorem cc88 : ccode Try.prog (min Try.f88.ntmps pbase) (Try.f88.body.getD .skip) = some ac88 := by kernel_rfl
def ac89 : ACode := (.seq (.ops [⟨(some 6), (.mov (.c (.int .i64 0))), none⟩]) (.seq (.ops [⟨(some 7), (.mov (.t 1)), none⟩]) (.block 0 (.seq (.seq (.ops [⟨(some 12), (.bin .eql (.t 7) (.c (.int .i64 0))), none⟩, ⟨(some 11), (.mov (.t 12)), none⟩]) (.cond (.t 11) .skip (.ops [⟨(some 13), (.bin .eql (.t 7) (.c (.int .i64 1))), none⟩, ⟨(some 11), (.mov (.t 13)), none⟩]))) (.cond (.t 11) (.seq (.ops [⟨(some 14), (.mov (.t 0)), none⟩, ⟨(some 15), (.mov (.t 2)), none⟩, ⟨(some 16), (.idx 1 (.t 14) (.t 15)), none⟩, ⟨(some 17), (.ld none (.t 16)), none⟩, ⟨(some 6), (.mov (.t 17)), none⟩]) .ret) (.seq (.ops [⟨(some 19), (.bin .eql (.t 7) (.c (.int .i64 2))), none⟩, ⟨(some 18), (.mov (.t 19)), none⟩]) (.cond (.t 18) (.seq (.ops [⟨(some 20), (.mov (.t 0)), none⟩, ⟨(some 21), (.len (.t 20)), none⟩, ⟨(some 22), (.mov (.t 0)), none⟩, ⟨(some 23), (.call 98 [(.t 22)]), none⟩, ⟨(some 24), (.len (.t 23)), none⟩, ⟨(some 25), (.bin .sub (.t 21) (.t 24)), none⟩, ⟨(some 6), (.mov (.t 25)), none⟩]) .ret) (.seq (.ops [⟨(some 27), (.bin .eql (.t 7) (.c (.int .i64 3))), none⟩, ⟨(some 26), (.mov (.t 27)), none⟩]) (.cond (.t 26) (.seq (.ops [⟨(some 28), (.mov (.t 0)), none⟩, ⟨(some 29), (.call 99 [(.t 28)]), none⟩, ⟨(some 30), (.len (.t 29)), none⟩, ⟨(some 6), (.mov (.t 30)), none⟩]) .ret) (.seq (.ops [⟨(some 32), (.bin .eql (.t 7) (.c (.int .i64 4))), none⟩, ⟨(some 31), (.mov (.t 32)), none⟩]) (.cond (.t 31) (.seq (.seq (.ops [⟨(some 33), (.mov (.t 0)), none⟩, ⟨(some 34), (.mov (.t 2)), none⟩, ⟨(some 35), (.idx 1 (.t 33) (.t 34)), none⟩, ⟨(some 36), (.ld none (.t 35)), none⟩, ⟨(some 37), (.mov (.t 2)), none⟩, ⟨(some 38), (.bin .gtr (.t 36) (.t 37)), none⟩]) (.cond (.t 38) (.seq (.ops [⟨(some 6), (.mov (.c (.int .i64 1))), none⟩]) .ret) .skip)) (.seq (.ops [⟨(some 6), (.mov (.c (.int .i64 0))), none⟩]) .ret)) (.seq (.ops [⟨(some 8), (.mov (.t 0)), none⟩, ⟨(some 9), (.call 101 [(.t 8), (.c (.func (.func 102) #[] #[]))]), none⟩, ⟨(some 10), (.call 100 [(.t 9)]), none⟩, ⟨(some 6), (.mov (.t 10)), none⟩]) .ret))))))))))))
theorem cc89 : ccode Try.prog (min Try.f89.ntmps pbase) (Try.f89.body.getD .skip) = some ac89 := by kernel_rfl
def ac90 : ACode := (.seq (.ops [⟨(some 4), (.nils 1), none⟩, ⟨(some 5), (.mov (.c (.bool false))), none⟩]) (.seq (.ops [⟨(some 6), (.mov (.t 0)), none⟩, ⟨(some 7), (.mov (.t 1)), none⟩, ⟨(some 8), (.call 103 [(.t 6), (.c (.slice none 0 0)), (.c (.int .i64 0)), (.t 7)]), none⟩, ⟨(some 9), (.ext (.t 8) 0), none⟩, ⟨(some 10), (.ext (.t 8) 1), none⟩, ⟨(some 4), (.mov (.t 9)), none⟩, ⟨(some 5), (.mov (.t 10)), none⟩]) .ret))
theorem cc90 : ccode Try.prog (min Try.f90.ntmps pbase) (Try.f90.body.getD .skip) = some ac90 := by kernel_rfl
def ac91 : ACode := (.seq (.ops [⟨(some 4), (.nils 1), none⟩, ⟨(some 5), (.mov (.c (.bool false))), none⟩]) (.seq (.ops [⟨(some 6), (.mov (.c (.int .i64 0))), none⟩]) (.seq (.block 0 (.loop (.seq (.seq (.tree (.take ⟨(some 7), (.mov (.t 6)), none⟩ (.take ⟨(some 8), (.mov (.t 0)), none⟩ (.take ⟨(some 9), (.len (.t 8)), none⟩ (.take ⟨(some 10), (.bin .sub (.t 9) (.c (.int .i64 1))), none⟩ (.take ⟨(some 11), (.bin .lss (.t 7) (.t 10)), none⟩ (.take ⟨(some 12), (.mov (.t 11)), none⟩ (.take ⟨(some 13), (.mov (.t 1)), (some (12, true))⟩ (.take ⟨(some 14), (.mov (.t 0)), (some (12, true))⟩ (.take ⟨(some 15), (.mov (.t 6)), (some (12, true))⟩ (.take ⟨(some 16), (.cut 1 (.t 14) none (some (.t 15))), (some (12, true))⟩ (.take ⟨(some 17), (.mov (.t 0)), (some (12, true))⟩ (.take ⟨(some 18), (.mov (.t 6)), (some (12, true))⟩ (.take ⟨(some 19), (.idx 1 (.t 17) (.t 18)), (some (12, true))⟩ (.take ⟨(some 20), (.ld none (.t 19)), (some (12, true))⟩ (.take ⟨(some 21), (.callv (.t 13) [(.t 16), (.t 20)]), (some (12, true))⟩ (.take ⟨(some 22), (.pick (.t 12) (.t 21) (.c (.bool false))), none⟩ .done))))))))))))))))) (.cond (.t 22) .skip (.exit 0))) (.block 1 (.ops [⟨(some 23), (.mov (.t 6)), none⟩, ⟨(some 24), (.bin .add (.t 23) (.c (.int .i64 1))), none⟩, ⟨(some 6), (.mov (.t 24)), none⟩]))))) (.seq (.tree (.take ⟨(some 25), (.mov (.t 0)), none⟩ (.take ⟨(some 26), (.len (.t 25)), none⟩ (.take ⟨(some 27), (.mov (.t 0)), none⟩ (.take ⟨(some 28), (.mov (.t 6)), none⟩ (.take ⟨(some 29), (.cut 1 (.t 27) none (some (.t 28))), none⟩ (.take ⟨(some 30), (.mov (.t 0)), none⟩ (.take ⟨(some 31), (.mov (.t 6)), none⟩ (.take ⟨(some 32), (.idx 1 (.t 30) (.t 31)), none⟩ (.take ⟨(some 33), (.ld none (.t 32)), none⟩ (.take ⟨(some 34), (.bin .add (.t 33) (.c (.int .i64 1))), none⟩ (.take ⟨(some 35), (.mov (.t 1)), none⟩ (.take ⟨(some 36), (.call 103 [(.t 26), (.t 29), (.t 34), (.t 35)]), none⟩ (.take ⟨(some 37), (.ext (.t 36) 0), none⟩ (.take ⟨(some 38), (.ext (.t 36) 1), none⟩ (.take ⟨(some 4), (.mov (.t 37)), none⟩ (.take ⟨(some 5), (.mov (.t 38)), none⟩ .done))))))))))))))))) .ret))))
theorem cc91 : ccode Try.prog (min Try.f91.ntmps pbase) (Try.f91.body.getD .skip) = some ac91 := by kernel_rfl
def ac92 : ACode := (.seq (.ops [⟨(some 4), (.mov (.c (.bool false))), none⟩]) (.seq (.seq (.ops [⟨(some 7), (.mov (.t 0)), none⟩, ⟨(some 8), (.len (.t 7)), none⟩, ⟨(some 9), (.mov (.c (.int .i64 0))), none⟩]) (.block 0 (.loop (.seq (.ops [⟨(some 10), (.bin .lss (.t 9) (.t 8)), none⟩]) (.seq (.cond (.t 10) .skip (.exit 0)) (.seq (.block 1 (.seq (.ops [⟨(some 11), (.idx 1 (.t 7) (.t 9)), none⟩, ⟨(some 12), (.ld none (.t 11)), none⟩, ⟨(some 6), (.mov (.t 12)), none⟩]) (.seq (.ops [⟨(some 13), (.mov (.t 6)), none⟩, ⟨(some 14), (.mov (.t 1)), none⟩, ⟨(some 15), (.bin .eql (.t 13) (.t 14)), none⟩]) (.cond (.t 15) (.seq (.ops [⟨(some 4), (.mov (.c (.bool true))), none⟩]) .ret) .skip)))) (.ops [⟨(some 16), (.bin .add (.t 9) (.c (.int .i64 1))), none⟩, ⟨(some 9), (.mov (.t 16)), none⟩]))))))) (.seq (.ops [⟨(some 4), (.mov (.c (.bool false))), none⟩]) .ret)))
theorem cc92 : ccode Try.prog (min Try.f92.ntmps pbase) (Try.f92.body.getD .skip) = some ac92 := by kernel_rfl
def ac94 : ACode := (.seq (.ops [⟨(some 6), (.mov (.c (.bool false))), none⟩]) (.seq (.seq (.ops [⟨(some 9), (.mov (.t 0)), none⟩, ⟨(some 10), (.len (.t 9)), none⟩, ⟨(some 11), (.mov (.c (.int .i64 0))), none⟩]) (.block 0 (.loop (.seq (.ops [⟨(some 12), (.bin .lss (.t 11) (.t 10)), none⟩]) (.seq (.cond (.t 12) .skip (.exit 0)) (.seq (.block 1 (.seq (.ops [⟨(some 13), (.idx 1 (.t 9) (.t 11)), none⟩, ⟨(some 14), (.ld none (.t 13)), none⟩, ⟨(some 8), (.mov (.t 14)), none⟩]) (.seq (.ops [⟨(some 15), (.mov (.t 8)), none⟩, ⟨(some 16), (.mov (.t 1)), none⟩, ⟨(some 17), (.mov (.t 2)), none⟩, ⟨(some 18), (.call 65 [(.t 15), (.t 16), (.t 17)]), none⟩, ⟨(some 19), (.not (.t 18)), none⟩]) (.cond (.t 19) (.seq (.ops [⟨(some 6), (.mov (.c (.bool false))), none⟩]) .ret) .skip)))) (.ops [⟨(some 20), (.bin .add (.t 11) (.c (.int .i64 1))), none⟩, ⟨(some 11), (.mov (.t 20)), none⟩]))))))) (.seq (.ops [⟨(some 6), (.mov (.c (.bool true))), none⟩]) .ret)))
theorem cc94 : ccode Try.prog (min Try.f94.ntmps pbase) (Try.f94.body.getD .skip) = some ac94 := by kernel_rfl
def ac95 : ACode := (.seq (.ops [⟨(some 2), (.mov (.c (.bool false))), none⟩]) (.seq (.ops [⟨(some 3), (.mov (.t 0)), none⟩, ⟨(some 4), (.bin .geq (.t 3) (.c (.int .i64 1))), none⟩, ⟨(some 5), (.mov (.t 4)), none⟩, ⟨(some 6), (.mov (.t 0)), (some (5, true))⟩, ⟨(some 7), (.bin .leq (.t 6) (.c (.int .i64 12))), (some (5, true))⟩, ⟨(some 8), (.pick (.t 5) (.t 7) (.c (.bool false))), none⟩, ⟨(some 2), (.mov (.t 8)), none⟩]) .ret))
theorem cc95 : ccode Try.prog (min Try.f95.ntmps pbase) (Try.f95.body.getD .skip) = some ac95 := by kernel_rfl
def ac96 : ACode := (.seq (.ops [⟨(some 4), (.mov (.c (.bool false))), none⟩]) (.seq (.ops [⟨(some 5), (.mov (.c (.int .u16 0))), none⟩]) (.seq (.seq (.ops [⟨(some 8), (.mov (.t 0)), none⟩, ⟨(some 9), (.len (.t 8)), none⟩, ⟨(some 10), (.mov (.c (.int .i64 0))), none⟩]) (.block 0 (.loop (.seq (.ops [⟨(some 11), (.bin .lss (.t 10) (.t 9)), none⟩]) (.seq (.cond (.t 11) .skip (.exit 0)) (.seq (.block 1 (.seq (.ops [⟨(some 12), (.idx 1 (.t 8) (.t 10)), none⟩, ⟨(some 13), (.ld none (.t 12)), none⟩, ⟨(some 7), (.mov (.t 13)), none⟩]) (.seq (.seq (.ops [⟨(some 14), (.mov (.t 7)), none⟩, ⟨(some 15), (.mov (.t 1)), none⟩, ⟨(some 16), (.call 97 [(.t 14), (.t 15)]), none⟩, ⟨(some 17), (.not (.t 16)), none⟩, ⟨(some 18), (.mov (.t 17)), none⟩, ⟨(some 19), (.mov (.t 5)), (some (18, false))⟩, ⟨(some 20), (.mov (.t 7)), (some (18, false))⟩, ⟨(some 21), (.call 104 [(.t 19), (.t 20)]), (some (18, false))⟩, ⟨(some 22), (.pick (.t 18) (.c (.bool true)) (.t 21)), none⟩]) (.cond (.t 22) (.seq (.ops [⟨(some 4), (.mov (.c (.bool false))), none⟩]) .ret) .skip)) (.ops [⟨(some 23), (.mov (.t 5)), none⟩, ⟨(some 24), (.mov (.t 7)), none⟩, ⟨(some 25), (.call 105 [(.t 23), (.t 24)]), none⟩, ⟨(some 5), (.mov (.t 25)), none⟩])))) (.ops [⟨(some 26), (.bin .add (.t 10) (.c (.int .i64 1))), none⟩, ⟨(some 10), (.mov (.t 26)), none⟩]))))))) (.seq (.ops [⟨(some 4), (.mov (.c (.bool true))), none⟩]) .ret))))
theorem cc96 : ccode Try.prog (min Try.f96.ntmps pbase) (Try.f96.body.getD .skip) = some ac96 := by kernel_rfl
def ac97 : ACode := (.seq (.ops [⟨(some 4), (.mov (.c (.bool false))), none⟩]) (.seq (.ops [⟨(some 5), (.mov (.t 0)), none⟩, ⟨(some 6), (.bin .geq (.t 5) (.c (.int .i64 0))), none⟩, ⟨(some 7), (.mov (.t 6)), none⟩, ⟨(some 8), (.mov (.t 0)), (some (7, true))⟩, ⟨(some 9), (.mov (.t 1)), (some (7, true))⟩, ⟨(some 10), (.bin .lss (.t 8) (.t 9)), (some (7, true))⟩, ⟨(some 11), (.pick (.t 7) (.t 10) (.c (.bool false))), none⟩, ⟨(some 4), (.mov (.t 11)), none⟩]) .ret))
theorem cc97 : ccode Try.prog (min Try.f97.ntmps pbase) (Try.f97.body.getD .skip) = some ac97 := by kernel_rfl
def ac98 : ACode := (.seq (.ops [⟨(some 2), (.nils 1), none⟩]) (.seq (.ops [⟨(some 3), (.nils 1), none⟩]) (.seq (.seq (.ops [⟨(some 6), (.mov (.t 0)), none⟩, ⟨(some 7), (.len (.t 6)), none⟩, ⟨(some 8), (.mov (.c (.int .i64 0))), none⟩]) (.block 0 (.loop (.seq (.ops [⟨(some 9), (.bin .lss (.t 8) (.t 7)), none⟩]) (.seq (.cond (.t 9) .skip (.exit 0)) (.seq (.block 1 (.seq (.ops [⟨(some 10), (.mov (.t 8)), none⟩, ⟨(some 11), (.idx 1 (.t 6) (.t 8)), none⟩, ⟨(some 12), (.ld none (.t 11)), none⟩, ⟨(some 4), (.mov (.t 10)), none⟩, ⟨(some 5), (.mov (.t 12)), none⟩]) (.seq (.ops [⟨(some 13), (.mov (.t 5)), none⟩, ⟨(some 14), (.mov (.t 4)), none⟩, ⟨(some 15), (.bin .neq (.t 13) (.t 14)), none⟩]) (.cond (.t 15) (.ops [⟨(some 16), (.mov (.t 3)), none⟩, ⟨(some 17), (.mov (.t 4)), none⟩, ⟨(some 18), (.bsl 1 1 [(.int .i64 0)] [(0, (.t 17))]), none⟩, ⟨(some 19), (.app 1 8 (.t 16) (.t 18)), none⟩, ⟨(some 3), (.mov (.t 19)), none⟩]) .skip)))) (.ops [⟨(some 20), (.bin .add (.t 8) (.c (.int .i64 1))), none⟩, ⟨(some 8), (.mov (.t 20)), none⟩]))))))) (.seq (.ops [⟨(some 21), (.mov (.t 3)), none⟩, ⟨(some 2), (.mov (.t 21)), none⟩]) .ret))))
theorem cc98 : ccode Try.prog (min Try.f98.ntmps pbase) (Try.f98.body.getD .skip) = some ac98 := by kernel_rfl
def ac99 : ACode := (.seq (.ops [⟨(some 2), (.nils 3), none⟩]) (.seq (.ops [⟨(some 3), (.alloc [(.bool false), (.bool false), (.bool false), (.bool false), (.bool false), (.bool false), (.bool false), (.bool false), (.bool false), (.bool false), (.bool false), (.bool false)]), none⟩]) (.seq (.ops [⟨(some 4), (.nils 3), none⟩]) (.seq (.seq (.ops [⟨(some 9), (.mov (.t 0)), none⟩, ⟨(some 10), (.len (.t 9)), none⟩, ⟨(some 11), (.mov (.c (.int .i64 0))), none⟩]) (.block 0 (.loop (.seq (.ops [⟨(some 12), (.bin .lss (.t 11) (.t 10)), none⟩]) (.seq (.cond (.t 12) .skip (.exit 0)) (.seq (.block 1 (.seq (.ops [⟨(some 13), (.mov (.t 11)), none⟩, ⟨(some 5), (.mov (.t 13)), none⟩]) (.seq (.seq (.ops [⟨(some 14), (.mov (.t 5)), none⟩, ⟨(some 15), (.arr 1 12 (.t 3) (.t 14)), none⟩, ⟨(some 16), (.ld none (.t 15)), none⟩]) (.cond (.t 16) (.exit 1) .skip)) (.seq (.ops [⟨(some 17), (.mov (.t 0)), none⟩, ⟨(some 18), (.mov (.t 5)), none⟩, ⟨(some 19), (.call 106 [(.t 17), (.t 18)]), none⟩, ⟨(some 6), (.alloc [(.int .i64 0), (.int .i64 0), (.slice none 0 0)]), none⟩, ⟨none, (.st 3 (.t 6) (.t 19)), none⟩]) (.seq (.seq (.ops [⟨(some 20), (.ld (some 3) (.t 6)), none⟩, ⟨(some 21), (.call 107 [(.t 20)]), none⟩, ⟨(some 22), (.len (.t 21)), none⟩, ⟨(some 23), (.mov (.c (.int .i64 0))), none⟩]) (.block 2 (.loop (.seq (.ops [⟨(some 24), (.bin .lss (.t 23) (.t 22)), none⟩]) (.seq (.cond (.t 24) .skip (.exit 2)) (.seq (.block 3 (.seq (.ops [⟨(some 25), (.idx 1 (.t 21) (.t 23)), none⟩, ⟨(some 26), (.ld none (.t 25)), none⟩, ⟨(some 8), (.mov (.t 26)), none⟩]) (.ops [⟨(some 27), (.mov (.t 8)), none⟩, ⟨(some 28), (.arr 1 12 (.t 3) (.t 27)), none⟩, ⟨none, (.st 1 (.t 28) (.c (.bool true))), none⟩]))) (.ops [⟨(some 29), (.bin .add (.t 23) (.c (.int .i64 1))), none⟩, ⟨(some 23), (.mov (.t 29)), none⟩]))))))) (.ops [⟨(some 30), (.mov (.t 4)), none⟩, ⟨(some 31), (.ld (some 3) (.t 6)), none⟩, ⟨(some 32), (.bsl 3 1 [(.int .i64 0), (.int .i64 0), (.slice none 0 0)] [(0, (.t 31))]), none⟩, ⟨(some 33), (.app 3 40 (.t 30) (.t 32)), none⟩, ⟨(some 4), (.mov (.t 33)), none⟩])))))) (.ops [⟨(some 34), (.bin .add (.t 11) (.c (.int .i64 1))), none⟩, ⟨(some 11), (.mov (.t 34)), none⟩]))))))) (.seq (.ops [⟨(some 35), (.mov (.t 4)), none⟩, ⟨(some 2), (.mov (.t 35)), none⟩]) .ret)))))
theorem cc99 : ccode Try.prog (min Try.f99.ntmps pbase) (Try.f99.body.getD .skip) = some ac99 := by kernel_rfl
def ac100 : ACode := (.seq (.ops [⟨(some 2), (.mov (.c (.int .i64 0))), none⟩]) (.seq (.ops [⟨(some 3), (.mov (.c (.int .i64 1))), none⟩]) (.seq (.seq (.ops [⟨(some 6), (.mov (.t 0)), none⟩, ⟨(some 7), (.len (.t 6)), none⟩, ⟨(some 8), (.mov (.c (.int .i64 0))), none⟩]) (.block 0 (.loop (.seq (.ops [⟨(some 9), (.bin .lss (.t 8) (.t 7)), none⟩]) (.seq (.cond (.t 9) .skip (.exit 0)) (.seq (.block 1 (.seq (.ops [⟨(some 10), (.idx 1 (.t 6) (.t 8)), none⟩, ⟨(some 11), (.ld none (.t 10)), none⟩, ⟨(some 5), (.mov (.t 11)), none⟩]) (.ops [⟨(some 12), (.mov (.t 3)), none⟩, ⟨(some 13), (.mov (.t 3)), none⟩, ⟨(some 14), (.mov (.t 5)), none⟩, ⟨(some 15), (.call 108 [(.t 13), (.t 14)]), none⟩, ⟨(some 16), (.bin .quo (.t 12) (.t 15)), none⟩, ⟨(some 17), (.mov (.t 5)), none⟩, ⟨(some 18), (.bin .mul (.t 16) (.t 17)), none⟩, ⟨(some 3), (.mov (.t 18)), none⟩]))) (.ops [⟨(some 19), (.bin .add (.t 8) (.c (.int .i64 1))), none⟩, ⟨(some 8), (.mov (.t 19)), none⟩]))))))) (.seq (.ops [⟨(some 20), (.mov (.t 3)), none⟩, ⟨(some 2), (.mov (.t 20)), none⟩]) .ret))))
theorem cc100 : ccode Try.prog (min Try.f100.ntmps pbase) (Try.f100.body.getD .skip) = some ac100 := by kernel_rfl
def ac101 : ACode := (.seq (.ops [⟨(some 4), (.nils 1), none⟩]) (.seq (.ops [⟨(some 5), (.nils 1), none⟩]) (.seq (.seq (.ops [⟨(some 8), (.mov (.t 0)), none⟩, ⟨(some 9), (.call 99 [(.t 8)]), none⟩, ⟨(some 10), (.len (.t 9)), none⟩, ⟨(some 11), (.mov (.c (.int .i64 0))), none⟩]) (.block 0 (.loop (.seq (.ops [⟨(some 12), (.bin .lss (.t 11) (.t 10)), none⟩]) (.seq (.cond (.t 12) .skip (.exit 0)) (.seq (.block 1 (.seq (.ops [⟨(some 13), (.idx 3 (.t 9) (.t 11)), none⟩, ⟨(some 14), (.ld (some 3) (.t 13)), none⟩, ⟨(some 7), (.alloc [(.int .i64 0), (.int .i64 0), (.slice none 0 0)]), none⟩, ⟨none, (.st 3 (.t 7) (.t 14)), none⟩]) (.ops [⟨(some 15), (.mov (.t 5)), none⟩, ⟨(some 16), (.mov (.t 1)), none⟩, ⟨(some 17), (.ld (some 3) (.t 7)), none⟩, ⟨(some 18), (.callv (.t 16) [(.t 17)]), none⟩, ⟨(some 19), (.bsl 1 1 [(.int .i64 0)] [(0, (.t 18))]), none⟩, ⟨(some 20), (.app 1 8 (.t 15) (.t 19)), none⟩, ⟨(some 5), (.mov (.t 20)), none⟩]))) (.ops [⟨(some 21), (.bin .add (.t 11) (.c (.int .i64 1))), none⟩, ⟨(some 11), (.mov (.t 21)), none⟩]))))))) (.seq (.ops [⟨(some 22), (.mov (.t 5)), none⟩, ⟨(some 4), (.mov (.t 22)), none⟩]) .ret))))
theorem cc101 : ccode Try.prog (min Try.f101.ntmps pbase) (Try.f101.body.getD .skip) = some ac101 := by kernel_rfl
def ac102 : ACode := (.seq (.ops [⟨(some 1), (.box 3 (.t 0)), none⟩, ⟨(some 2), (.mov (.c (.int .i64 0))), none⟩]) (.seq (.ops [⟨(some 3), (.fa 2 (.t 1)), none⟩, ⟨(some 4), (.ld none (.t 3)), none⟩, ⟨(some 5), (.len (.t 4)), none⟩, ⟨(some 6), (.bin .add (.c (.int .i64 1)) (.t 5)), none⟩, ⟨(some 2), (.mov (.t 6)), none⟩]) .ret))
theorem cc102 : ccode Try.prog (min Try.f102.ntmps pbase) (Try.f102.body.getD .skip) = some ac102 := by kernel_rfl
def ac103 : ACode := (.seq (.ops [⟨(some 8), (.nils 1), none⟩, ⟨(some 9), (.mov (.c (.bool false))), none⟩]) (.scope (.seq (.ops [⟨(some 13), (.mov (.t 1)), none⟩, ⟨(some 14), (.call 109 [(.t 13)]), none⟩, ⟨(some 10), (.mov (.t 14)), none⟩]) (.seq (.ops [⟨(some 15), (.mov (.t 2)), none⟩, ⟨(some 11), (.mov (.t 15)), none⟩]) (.seq (.label 0) (.seq (.block 0 (.loop (.block 1 (.block 2 (.seq (.ops [⟨(some 28), (.mov (.t 10)), none⟩, ⟨(some 29), (.len (.t 28)), none⟩, ⟨(some 30), (.mov (.t 0)), none⟩, ⟨(some 31), (.bin .eql (.t 29) (.t 30)), none⟩, ⟨(some 27), (.mov (.t 31)), none⟩]) (.cond (.t 27) (.exit 0) (.seq (.ops [⟨(some 33), (.mov (.t 11)), none⟩, ⟨(some 34), (.mov (.t 0)), none⟩, ⟨(some 35), (.bin .lss (.t 33) (.t 34)), none⟩, ⟨(some 36), (.mov (.t 35)), none⟩, ⟨(some 37), (.mov (.t 3)), (some (36, true))⟩, ⟨(some 38), (.mov (.t 10)), (some (36, true))⟩, ⟨(some 39), (.mov (.t 11)), (some (36, true))⟩, ⟨(some 40), (.callv (.t 37) [(.t 38), (.t 39)]), (some (36, true))⟩, ⟨(some 41), (.pick (.t 36) (.t 40) (.c (.bool false))), none⟩, ⟨(some 32), (.mov (.t 41)), none⟩]) (.cond (.t 32) (.seq (.ops [⟨(some 42), (.mov (.t 10)), none⟩, ⟨(some 43), (.mov (.t 11)), none⟩, ⟨(some 44), (.bsl 1 1 [(.int .i64 0)] [(0, (.t 43))]), none⟩, ⟨(some 45), (.app 1 8 (.t 42) (.t 44)), none⟩, ⟨(some 10), (.mov (.t 45)), none⟩]) (.ops [⟨(some 11), (.mov (.c (.int .i64 0))), none⟩])) (.seq (.ops [⟨(some 47), (.mov (.t 11)), none⟩, ⟨(some 48), (.mov (.t 0)), none⟩, ⟨(some 49), (.bin .lss (.t 47) (.t 48)), none⟩, ⟨(some 46), (.mov (.t 49)), none⟩]) (.cond (.t 46) (.ops [⟨(some 50), (.mov (.t 11)), none⟩, ⟨(some 51), (.bin .add (.t 50) (.c (.int .i64 1))), none⟩, ⟨(some 11), (.mov (.t 51)), none⟩]) (.seq (.ops [⟨(some 53), (.mov (.t 10)), none⟩, ⟨(some 54), (.len (.t 53)), none⟩, ⟨(some 55), (.bin .eql (.t 54) (.c (.int .i64 0))), none⟩, ⟨(some 52), (.mov (.t 55)), none⟩]) (.cond (.t 52) (.seq (.ops [⟨(some 8), (.nils 1), none⟩, ⟨(some 9), (.mov (.c (.bool false))), none⟩]) .ret) (.seq (.ops [⟨(some 16), (.mov (.t 10)), none⟩, ⟨(some 17), (.len (.t 16)), none⟩, ⟨(some 18), (.bin .sub (.t 17) (.c (.int .i64 1))), none⟩, ⟨(some 12), (.mov (.t 18)), none⟩]) (.seq (.ops [⟨(some 19), (.mov (.t 10)), none⟩, ⟨(some 20), (.mov (.t 12)), none⟩, ⟨(some 21), (.idx 1 (.t 19) (.t 20)), none⟩, ⟨(some 22), (.ld none (.t 21)), none⟩, ⟨(some 23), (.bin .add (.t 22) (.c (.int .i64 1))), none⟩, ⟨(some 11), (.mov (.t 23)), none⟩]) (.ops [⟨(some 24), (.mov (.t 10)), none⟩, ⟨(some 25), (.mov (.t 12)), none⟩, ⟨(some 26), (.cut 1 (.t 24) none (some (.t 25))), none⟩, ⟨(some 10), (.mov (.t 26)), none⟩]))))))))))))))) (.seq (.ops [⟨(some 56), (.mov (.t 10)), none⟩, ⟨(some 8), (.mov (.t 56)), none⟩, ⟨(some 9), (.mov (.c (.bool true))), none⟩]) .ret)))))))
theorem cc103 : ccode Try.prog (min Try.f103.ntmps pbase) (Try.f103.body.getD .skip) = some ac103 := by kernel_rfl
def ac104 : ACode := (.seq (.ops [⟨(some 4), (.mov (.c (.bool false))), none⟩]) (.seq (.ops [⟨(some 5), (.mov (.t 0)), none⟩, ⟨(some 6), (.mov (.t 1)), none⟩, ⟨(some 7), (.bin .shr (.t 5) (.t 6)), none⟩, ⟨(some 8), (.bin .and (.t 7) (.c (.int .u16 1))), none⟩, ⟨(some 9), (.bin .eql (.t 8) (.c (.int .u16 1))), none⟩, ⟨(some 4), (.mov (.t 9)), none⟩]) .ret))
theorem cc104 : ccode Try.prog (min Try.f104.ntmps pbase) (Try.f104.body.getD .skip) = some ac104 := by kernel_rfl
def ac105 : ACode := (.seq (.ops [⟨(some 4), (.mov (.c (.int .u16 0))), none⟩]) (.seq (.ops [⟨(some 5), (.mov (.t 0)), none⟩, ⟨(some 6), (.mov (.t 1)), none⟩, ⟨(some 7), (.bin .shl (.c (.int .u16 1)) (.t 6)), none⟩, ⟨(some 8), (.bin .or (.t 5) (.t 7)), none⟩, ⟨(some 4), (.mov (.t 8)), none⟩]) .ret))
theorem cc105 : ccode Try.prog (min Try.f105.ntmps pbase) (Try.f105.body.getD .skip) = some ac105 := by kernel_rfl
def ac106 : ACode := (.seq (.ops [⟨(some 4), (.alloc [(.int .i64 0), (.int .i64 0), (.slice none 0 0)]), none⟩]) (.seq (.ops [⟨(some 7), (.mov (.t 0)), none⟩, ⟨(some 8), (.mov (.t 1)), none⟩, ⟨(some 9), (.call 110 [(.t 7), (.t 8)]), none⟩, ⟨(some 10), (.pu (.bld [(.int .i64 0), (.int .i64 0), (.slice none 0 0)] [(0, 2)]) [(.t 9)]), none⟩, ⟨(some 5), (.alloc [(.int .i64 0), (.int .i64 0), (.slice none 0 0)]), none⟩, ⟨none, (.st 3 (.t 5) (.t 10)), none⟩]) (.seq (.seq (.ops [⟨(some 11), (.mov (.t 0)), none⟩, ⟨(some 12), (.fa 0 (.t 5)), none⟩, ⟨(some 13), (.fa 1 (.t 12)), none⟩, ⟨(some 14), (.ld none (.t 13)), none⟩, ⟨(some 15), (.call 110 [(.t 11), (.t 14)]), none⟩, ⟨(some 6), (.alloc [(.int .i64 0), (.int .i64 0)]), none⟩, ⟨none, (.st 2 (.t 6) (.t 15)), none⟩]) (.block 0 (.loop (.seq (.seq (.ops [⟨(some 16), (.ld (some 2) (.t 6)), none⟩, ⟨(some 17), (.fa 0 (.t 5)), none⟩, ⟨(some 18), (.ld (some 2) (.t 17)), none⟩, ⟨(some 19), (.pu (.aeq true [0, 1]) [(.t 16), (.t 18)]), none⟩]) (.cond (.t 19) .skip (.exit 0))) (.seq (.block 1 (.ops [⟨(some 24), (.fa 2 (.t 5)), none⟩, ⟨(some 25), (.ld none (.t 24)), none⟩, ⟨(some 26), (.ld (some 2) (.t 6)), none⟩, ⟨(some 27), (.bsl 2 1 [(.int .i64 0), (.int .i64 0)] [(0, (.t 26))]), none⟩, ⟨(some 28), (.app 2 16 (.t 25) (.t 27)), none⟩, ⟨(some 29), (.fa 2 (.t 5)), none⟩, ⟨none, (.st 1 (.t 29) (.t 28)), none⟩])) (.seq (.seq (.ops [⟨(some 30), (.ld (some 2) (.t 6)), none⟩]) (.ops [⟨(some 6), (.alloc [(.int .i64 0), (.int .i64 0)]), none⟩, ⟨none, (.st 2 (.t 6) (.t 30)), none⟩])) (.ops [⟨(some 20), (.mov (.t 0)), none⟩, ⟨(some 21), (.fa 1 (.t 6)), none⟩, ⟨(some 22), (.ld none (.t 21)), none⟩, ⟨(some 23), (.call 110 [(.t 20), (.t 22)]), none⟩, ⟨none, (.st 2 (.t 6) (.t 23)), none⟩]))))))) (.seq (.ops [⟨(some 31), (.ld (some 3) (.t 5)), none⟩, ⟨none, (.st 3 (.t 4) (.t 31)), none⟩]) .ret))))
theorem cc106 : ccode Try.prog (min Try.f106.ntmps pbase) (Try.f106.body.getD .skip) = some ac106 := by kernel_rfl
def ac107 : ACode := (.seq (.ops [⟨(some 1), (.box 3 (.t 0)), none⟩, ⟨(some 2), (.nils 1), none⟩]) (.seq (.ops [⟨(some 6), (.fa 0 (.t 1)), none⟩, ⟨(some 7), (.fa 0 (.t 6)), none⟩, ⟨(some 8), (.ld none (.t 7)), none⟩, ⟨(some 9), (.bsl 1 1 [(.int .i64 0)] [(0, (.t 8))]), none⟩, ⟨(some 3), (.mov (.t 9)), none⟩]) (.seq (.seq (.ops [⟨(some 10), (.fa 2 (.t 1)), none⟩, ⟨(some 11), (.ld none (.t 10)), none⟩, ⟨(some 12), (.len (.t 11)), none⟩, ⟨(some 13), (.mov (.c (.int .i64 0))), none⟩]) (.block 0 (.loop (.seq (.ops [⟨(some 14), (.bin .lss (.t 13) (.t 12)), none⟩]) (.seq (.cond (.t 14) .skip (.exit 0)) (.seq (.block 1 (.seq (.ops [⟨(some 15), (.idx 2 (.t 11) (.t 13)), none⟩, ⟨(some 16), (.ld (some 2) (.t 15)), none⟩, ⟨(some 5), (.alloc [(.int .i64 0), (.int .i64 0)]), none⟩, ⟨none, (.st 2 (.t 5) (.t 16)), none⟩]) (.ops [⟨(some 17), (.mov (.t 3)), none⟩, ⟨(some 18), (.fa 0 (.t 5)), none⟩, ⟨(some 19), (.ld none (.t 18)), none⟩, ⟨(some 20), (.bsl 1 1 [(.int .i64 0)] [(0, (.t 19))]), none⟩, ⟨(some 21), (.app 1 8 (.t 17) (.t 20)), none⟩, ⟨(some 3), (.mov (.t 21)), none⟩]))) (.ops [⟨(some 22), (.bin .add (.t 13) (.c (.int .i64 1))), none⟩, ⟨(some 13), (.mov (.t 22)), none⟩]))))))) (.seq (.ops [⟨(some 23), (.mov (.t 3)), none⟩, ⟨(some 2), (.mov (.t 23)), none⟩]) .ret))))
theorem cc107 : ccode Try.prog (min Try.f107.ntmps pbase) (Try.f107.body.getD .skip) = some ac107 := by kernel_rfl
def ac108 : ACode := (.seq (.ops [⟨(some 4), (.mov (.c (.int .i64 0))), none⟩]) (.seq (.block 0 (.loop (.seq (.seq (.ops [⟨(some 5), (.mov (.t 1)), none⟩, ⟨(some 6), (.bin .neq (.t 5) (.c (.int .i64 0))), none⟩]) (.cond (.t 6) .skip (.exit 0))) (.block 1 (.tree (.take ⟨(some 7), (.mov (.t 1)), none⟩ (.take ⟨(some 8), (.mov (.t 0)), none⟩ (.take ⟨(some 9), (.mov (.t 1)), none⟩ (.take ⟨(some 10), (.bin .rem (.t 8) (.t 9)), none⟩ (.take ⟨(some 0), (.mov (.t 7)), none⟩ (.take ⟨(some 1), (.mov (.t 10)), none⟩ .done))))))))))) (.seq (.ops [⟨(some 11), (.mov (.t 0)), none⟩, ⟨(some 4), (.mov (.t 11)), none⟩]) .ret)))
theorem cc108 : ccode Try.prog (min Try.f108.ntmps pbase) (Try.f108.body.getD .skip) = some ac108 := by kernel_rfl
def ac109 : ACode := (.seq (.ops [⟨(some 2), (.nils 1), none⟩]) (.seq (.seq (.ops [⟨(some 3), (.mov (.t 0)), none⟩, ⟨(some 4), (.isnil false (.t 3)), none⟩]) (.cond (.t 4) (.seq (.ops [⟨(some 2), (.nils 1), none⟩]) .ret) .skip)) (.seq (.ops [⟨(some 5), (.bsl 1 0 [(.int .i64 0)] []), none⟩, ⟨(some 6), (.mov (.t 0)), none⟩, ⟨(some 7), (.app 1 8 (.t 5) (.t 6)), none⟩, ⟨(some 2), (.mov (.t 7)), none⟩]) .ret)))
theorem cc109 : ccode Try.prog (min Try.f109.ntmps pbase) (Try.f109.body.getD .skip) = some ac109 := by kernel_rfl
def ac110 : ACode := (.seq (.ops [⟨(some 4), (.alloc [(.int .i64 0), (.int .i64 0)]), none⟩]) (.seq (.ops [⟨(some 5), (.mov (.t 1)), none⟩, ⟨(some 6), (.mov (.t 0)), none⟩, ⟨(some 7), (.mov (.t 1)), none⟩, ⟨(some 8), (.idx 1 (.t 6) (.t 7)), none⟩, ⟨(some 9), (.ld none (.t 8)), none⟩, ⟨(some 10), (.pu (.bld [(.int .i64 0), (.int .i64 0)] [(0, 1), (1, 1)]) [(.t 5), (.t 9)]), none⟩, ⟨none, (.st 2 (.t 4) (.t 10)), none⟩]) .ret))
theorem cc110 : ccode Try.prog (min Try.f110.ntmps pbase) (Try.f110.body.getD .skip) = some ac110 := by kernel_rfl
end Go.Proofs.Ytpohldecllkjbaa
namespace Go.Proofs.Ytpohldecllkjbaa
open Go.Am
attribute [local irreducible] AW Outs Weak Lends Lend Sp aops atree aop1 Then Round InBlock Done
/-- What toIntS has written after k rounds. -/
def copied (L : List Int) (k : Nat) : List Int := L.take k ++ List.replicate (L.length - k) 0
theorem copied_len (L : List Int) (k : Nat) (h : k ≤ L.length) : (copied L k).length = L.length := by simp [copied]; omega
theorem copied_set (L : List Int) (k : Nat) (h : k < L.length) : (copied L k).set k (L.getD k 0) = copied L (k + 1) := by
  unfold copied
  have e : L.length - k = (L.length - (k + 1)) + 1 := by omega
  have e2 : k - (L.take k).length = 0 := by simp; omega
  rw [take_snoc L k 0 h, e, List.replicate_succ, List.set_append_right _ _ (by simp; omega), e2]
  simp
theorem toIntS_spec (L : List Int) (hL : L.length ≤ 1048576) : Sp Try.prog 50 [ints L] (newInts L) := by
  refine spec_of Try.func50 rfl cc50 rfl ?_
  unfold ac50
  repeat (first | (refine step_ops ?_; (first | (refine m_mov (by conv => lhs; whnf) ?_) | (refine m_len_ro rfl ?_) | (refine m_nils ?_))) | refine end_ops ?_ | refine seq_ops ?_)
  refine step_ops ?_
  refine m_mk rfl rfl ?_ ?_ ?_
  · omega
  · omega
  repeat (first | (refine step_ops ?_; (refine m_mov (by conv => lhs; whnf) ?_)) | refine end_ops ?_ | refine seq_ops ?_ | refine AW_seq ?_ | refine AW_block ?_)
  refine AW_loop (α := Nat) (fun k => k ≤ L.length) (fun k => st [(0, ints L), (3, .sl 7 1 0 L.length), (4, .i k)] [(7, (true, (copied L k).map AV.i))]) (fun k => L.length - k) 0 (by omega) (weak_st ?_ ?_ rfl rfl) ?_
  · (repeat' (first | exact trivial | refine And.intro ?_ ?_)) <;> (first | rfl | skip)
  · refine ⟨?_, trivial⟩
    show some (true, (List.replicate L.length (List.map AV.v [Value.int IntKind.i64 0])).flatten) = _
    simp [copied]
  intro k hk
  by_cases h : k < L.length
  · repeat (first | (refine step_ops ?_; (first | (refine m_mov (by conv => lhs; whnf) ?_) | (refine m_lss rfl rfl ?_) | (refine m_len_ro rfl ?_) | (refine m_idx1_ro rfl rfl ?_ ?_; (· omega)) | (refine m_idx1_sl rfl rfl ?_ ?_; (· omega)) | (refine m_ld_rpi rfl ?_ ?_; (· omega)))) | refine end_ops ?_ | refine seq_ops ?_ | refine AW_ops ?_ | (refine cond_t rfl ?_ ?_; (· first | rfl | assumption | (refine decide_eq_true ?_; first | assumption | omega) | (refine nt ?_; first | assumption | omega) | (simp [*]; done))) | refine skip_then ?_ | refine AW_seq ?_ | refine AW_block ?_)
    refine step_ops ?_
    refine m_st (by rfl) (by rfl) (by rfl) ?_ ?_ ?_
    · simp [copied_len, hk, h]
    · rfl
    repeat (first | (refine step_ops ?_; (first | (refine m_mov (by conv => lhs; whnf) ?_) | (refine m_add rfl rfl ?_ ?_ ?_; (· omega); (· omega)))) | refine end_ops ?_ | refine AW_ops ?_ | refine norm_then ?_ | refine norm_block ?_)
    refine next_round (k + 1) ?_ (weak_st ?_ ?_ rfl rfl) ?_
    · omega
    · (repeat' (first | exact trivial | refine And.intro ?_ ?_)) <;> (first | rfl | skip)
    · refine ⟨?_, trivial⟩
      show some (true, ((copied L k).map AV.i).set k (AV.i (L.getD k 0))) = _
      rw [← copied_set L k h, List.map_set]
    · omega
  · repeat (first | (refine step_ops ?_; (first | (refine m_mov (by conv => lhs; whnf) ?_) | (refine m_lss rfl rfl ?_) | (refine m_len_ro rfl ?_))) | refine end_ops ?_ | refine seq_ops ?_ | (refine cond_f rfl ?_ ?_; (· first | rfl | assumption | (refine decide_eq_false ?_; first | assumption | omega) | (refine nf ?_; first | assumption | omega) | (simp [*]; done))) | refine AW_seq ?_ | refine AW_ret ?_ | refine ret_done ?_ | refine norm_then ?_ | refine exit_then ?_ | refine exit_round ?_ | refine AW_exit ?_ | refine exit_block ?_)
    obtain rfl : k = L.length := by omega
    refine outs_ints rfl ?_ rfl
    simp [copied]
theorem isGuest_spec (a b : Int) : Sp Try.prog 97 [.i a, .i b] (.b (decide (0 ≤ a ∧ a < b))) := by
  refine spec_of Try.func97 rfl cc97 rfl ?_
  unfold ac97
  by_cases h : 0 ≤ a
  all_goals
    repeat (first | (refine step_ops ?_; (first | ((try (refine g_yes rfl ?_ ?_; (· first | rfl | assumption | (refine decide_eq_true ?_; first | assumption | omega) | (refine nt ?_; first | assumption | omega) | (simp [*]; done) | (refine decide_eq_false ?_; first | assumption | omega) | (refine nf ?_; first | assumption | omega)))); (first | (refine m_mov (by conv => lhs; whnf) ?_) | (refine m_lss rfl rfl ?_) | (refine m_geq rfl rfl ?_) | (refine m_pick_t rfl ?_ (by conv => lhs; whnf) ?_; (· first | rfl | assumption | (refine decide_eq_true ?_; first | assumption | omega) | (refine nt ?_; first | assumption | omega) | (simp [*]; done))) | (refine m_pick_f rfl ?_ (by conv => lhs; whnf) ?_; (· first | rfl | assumption | (refine decide_eq_false ?_; first | assumption | omega) | (refine nf ?_; first | assumption | omega) | (simp [*]; done))))) | (refine g_noT rfl ?_ ?_; (· first | rfl | assumption | (refine decide_eq_false ?_; first | assumption | omega) | (refine nf ?_; first | assumption | omega) | (simp [*]; done))))) | refine end_ops ?_ | refine seq_ops ?_ | refine AW_ret ?_ | refine ret_done ?_)
    refine outs_b ?_
    simp [*]
theorem isGuestCount_spec (a : Int) : Sp Try.prog 95 [.i a] (.b (decide (1 ≤ a ∧ a ≤ 12))) := by
  refine spec_of Try.func95 rfl cc95 rfl ?_
  unfold ac95
  by_cases h : 1 ≤ a
  all_goals
    repeat (first | (refine step_ops ?_; (first | ((try (refine g_yes rfl ?_ ?_; (· first | rfl | assumption | (refine decide_eq_true ?_; first | assumption | omega) | (refine nt ?_; first | assumption | omega) | (simp [*]; done) | (refine decide_eq_false ?_; first | assumption | omega) | (refine nf ?_; first | assumption | omega)))); (first | (refine m_mov (by conv => lhs; whnf) ?_) | (refine m_leq rfl rfl ?_) | (refine m_geq rfl rfl ?_) | (refine m_pick_t rfl ?_ (by conv => lhs; whnf) ?_; (· first | rfl | assumption | (refine decide_eq_true ?_; first | assumption | omega) | (refine nt ?_; first | assumption | omega) | (simp [*]; done))) | (refine m_pick_f rfl ?_ (by conv => lhs; whnf) ?_; (· first | rfl | assumption | (refine decide_eq_false ?_; first | assumption | omega) | (refine nf ?_; first | assumption | omega) | (simp [*]; done))))) | (refine g_noT rfl ?_ ?_; (· first | rfl | assumption | (refine decide_eq_false ?_; first | assumption | omega) | (refine nf ?_; first | assumption | omega) | (simp [*]; done))))) | refine end_ops ?_ | refine seq_ops ?_ | refine AW_ret ?_ | refine ret_done ?_)
    refine outs_b ?_
    simp [*]
theorem l1In_spec (a b c : Int) : Sp Try.prog 65 [.i a, .i b, .i c] (.b (decide (b ≤ a ∧ a ≤ c))) := by
  refine spec_of Try.func65 rfl cc65 rfl ?_
  unfold ac65
  by_cases h : b ≤ a
  all_goals
    repeat (first | (refine step_ops ?_; (first | ((try (refine g_yes rfl ?_ ?_; (· first | rfl | assumption | (refine decide_eq_true ?_; first | assumption | omega) | (refine nt ?_; first | assumption | omega) | (simp [*]; done) | (refine decide_eq_false ?_; first | assumption | omega) | (refine nf ?_; first | assumption | omega)))); (first | (refine m_mov (by conv => lhs; whnf) ?_) | (refine m_leq rfl rfl ?_) | (refine m_geq rfl rfl ?_) | (refine m_pick_t rfl ?_ (by conv => lhs; whnf) ?_; (· first | rfl | assumption | (refine decide_eq_true ?_; first | assumption | omega) | (refine nt ?_; first | assumption | omega) | (simp [*]; done))) | (refine m_pick_f rfl ?_ (by conv => lhs; whnf) ?_; (· first | rfl | assumption | (refine decide_eq_false ?_; first | assumption | omega) | (refine nf ?_; first | assumption | omega) | (simp [*]; done))))) | (refine g_noT rfl ?_ ?_; (· first | rfl | assumption | (refine decide_eq_false ?_; first | assumption | omega) | (refine nf ?_; first | assumption | omega) | (simp [*]; done))))) | refine end_ops ?_ | refine seq_ops ?_ | refine AW_ret ?_ | refine ret_done ?_)
    refine outs_b ?_
    simp [*]
theorem eqIntS_spec (L M : List Int) (hL : L.length ≤ 1048576) : Sp Try.prog 33 [ints L, ints M] (.b (decide (L = M))) := by
  refine spec_of Try.func33 rfl cc33 rfl ?_
  unfold ac33
  by_cases hlen : L.length = M.length
  · have hlen' : (decide ((L.length : Int) ≠ M.length)) = false := by simp [hlen]
    repeat (first | (refine step_ops ?_; (first | (refine m_mov (by conv => lhs; whnf) ?_) | (refine m_neq rfl rfl ?_) | (refine m_len_ro rfl ?_))) | refine end_ops ?_ | refine seq_ops ?_ | (refine cond_f rfl ?_ ?_; (· first | rfl | assumption | (refine decide_eq_false ?_; first | assumption | omega) | (refine nf ?_; first | assumption | omega) | (simp [*]; done))) | refine skip_then ?_ | refine AW_seq ?_ | refine AW_block ?_)
    refine AW_loop (α := Nat) (fun k => k ≤ L.length ∧ L.take k = M.take k) (fun k => st [(0, ints L), (1, ints M), (5, .i k)] []) (fun k => L.length - k) 0 (by simp) (weak_st ?_ ?_ rfl rfl) ?_
    · (repeat' (first | exact trivial | refine And.intro ?_ ?_)) <;> (first | rfl | skip)
    · trivial
    rintro k ⟨hk, he⟩
    by_cases h : k < L.length
    · have h' : k < M.length := by omega
      by_cases hx : L.getD k 0 = M.getD k 0
      · repeat (first | ((first | refine step_ops ?_ | refine step_tree ?_); (first | (refine m_mov (by conv => lhs; whnf) ?_) | (refine m_lss rfl rfl ?_) | (refine m_neq rfl rfl ?_) | (refine m_add rfl rfl ?_ ?_ ?_; (· omega); (· omega)) | (refine m_len_ro rfl ?_) | (refine m_idx1_ro rfl rfl ?_ ?_; (· omega)) | (refine m_ld_rpi rfl ?_ ?_; (· omega)))) | refine end_ops ?_ | refine seq_ops ?_ | refine AW_ops ?_ | refine end_tree ?_ | refine seq_tree ?_ | (refine cond_t rfl ?_ ?_; (· first | rfl | assumption | (refine decide_eq_true ?_; first | assumption | omega) | (refine nt ?_; first | assumption | omega) | (simp [*]; done))) | (refine cond_f rfl ?_ ?_; (· first | rfl | assumption | (refine decide_eq_false ?_; first | assumption | omega) | (refine nf ?_; first | assumption | omega) | (simp [*]; done))) | refine skip_then ?_ | refine AW_seq ?_ | refine norm_then ?_ | refine AW_block ?_ | refine norm_block ?_ | refine AW_skip ?_)
        refine next_round (k + 1) ⟨by omega, ?_⟩ (weak_st ?_ ?_ rfl rfl) ?_
        · rw [take_snoc L k 0 h, take_snoc M k 0 h', he, hx]
        · (repeat' (first | exact trivial | refine And.intro ?_ ?_)) <;> (first | rfl | skip)
        · trivial
        · omega
      · repeat (first | ((first | refine step_ops ?_ | refine step_tree ?_); (first | (refine m_mov (by conv => lhs; whnf) ?_) | (refine m_lss rfl rfl ?_) | (refine m_neq rfl rfl ?_) | (refine m_len_ro rfl ?_) | (refine m_idx1_ro rfl rfl ?_ ?_; (· omega)) | (refine m_ld_rpi rfl ?_ ?_; (· omega)))) | refine end_ops ?_ | refine seq_ops ?_ | refine end_tree ?_ | refine seq_tree ?_ | (refine cond_t rfl ?_ ?_; (· first | rfl | assumption | (refine decide_eq_true ?_; first | assumption | omega) | (refine nt ?_; first | assumption | omega) | (simp [*]; done))) | refine skip_then ?_ | refine AW_seq ?_ | refine AW_ret ?_ | refine ret_done ?_ | refine ret_then ?_ | refine AW_block ?_ | refine ret_block ?_ | refine ret_round ?_)
        refine outs_b ?_
        symm
        refine decide_eq_false fun e => hx (by rw [e])
    · repeat (first | (refine step_ops ?_; (first | (refine m_mov (by conv => lhs; whnf) ?_) | (refine m_lss rfl rfl ?_) | (refine m_len_ro rfl ?_))) | refine end_ops ?_ | refine seq_ops ?_ | (refine cond_f rfl ?_ ?_; (· first | rfl | assumption | (refine decide_eq_false ?_; first | assumption | omega) | (refine nf ?_; first | assumption | omega) | (simp [*]; done))) | refine AW_seq ?_ | refine AW_ret ?_ | refine ret_done ?_ | refine norm_then ?_ | refine exit_then ?_ | refine exit_round ?_ | refine AW_exit ?_ | refine exit_block ?_)
      refine outs_b ?_
      symm
      refine decide_eq_true ?_
      rw [List.take_of_length_le (by omega), List.take_of_length_le (by omega)] at he
      exact he
  · have hlen' : (decide ((L.length : Int) ≠ M.length)) = true := by simp; omega
    repeat (first | (refine step_ops ?_; (first | (refine m_mov (by conv => lhs; whnf) ?_) | (refine m_neq rfl rfl ?_) | (refine m_len_ro rfl ?_))) | refine end_ops ?_ | refine seq_ops ?_ | (refine cond_t rfl ?_ ?_; (· first | rfl | assumption | (refine decide_eq_true ?_; first | assumption | omega) | (refine nt ?_; first | assumption | omega) | (simp [*]; done))) | refine AW_seq ?_ | refine AW_ret ?_ | refine ret_done ?_ | refine ret_then ?_)
    refine outs_b ?_
    symm
    refine decide_eq_false fun e => hlen (by rw [e])
theorem getD_mem {L : List Int} {k : Nat} (h : k < L.length) : L.getD k 0 ∈ L := by simp [h]
end Go.Proofs.Ytpohldecllkjbaa
namespace Go.Proofs.Ytpohldecllkjbaa
open Go.Am
attribute [local irreducible] AW Outs Weak Lends Lend Sp aops atree aop1 Then Round InBlock Done
theorem setHas_spec (a g : Nat) (ha : a < 65536) (hg : g < 16) : Sp Try.prog 104 [.u a, .i g] (.b (a.testBit g)) := by
  refine spec_of Try.func104 rfl cc104 rfl ?_
  unfold ac104
  repeat (first | (refine step_ops ?_; (refine m_mov (by conv => lhs; whnf) ?_)) | refine end_ops ?_ | refine seq_ops ?_)
  refine step_ops ?_
  refine m_shr16 (a := a) (k := g) rfl rfl hg ?_
  refine step_ops ?_
  refine m_and16_1 (a := a >>> g) rfl rfl (Nat.lt_of_le_of_lt (Nat.shiftRight_le a g) ha) ?_
  refine step_ops ?_
  refine m_eql16_1 (a := (a >>> g) &&& 1) rfl rfl ?_
  rw [bit_and]
  repeat (first | (refine step_ops ?_; (refine m_mov (by conv => lhs; whnf) ?_)) | refine end_ops ?_ | refine AW_ret ?_ | refine ret_done ?_)
  exact outs_b rfl
theorem outs_u {s : AS} {a b : Nat} (h : a = b) : Outs s (.u a) (.u b) := by
  subst h; exact outs_v
theorem setWith_spec (a g : Nat) (ha : a < 65536) (hg : g < 16) : Sp Try.prog 105 [.u a, .i g] (.u (a ||| 1 <<< g)) := by
  refine spec_of Try.func105 rfl cc105 rfl ?_
  unfold ac105
  repeat (first | (refine step_ops ?_; (refine m_mov (by conv => lhs; whnf) ?_)) | refine end_ops ?_ | refine seq_ops ?_)
  refine step_ops ?_
  refine m_shl16 (k := g) rfl rfl hg ?_
  refine step_ops ?_
  refine m_or16 (a := a) (b := 1 <<< g) rfl rfl ha (shl16_lt hg) ?_
  repeat (first | (refine step_ops ?_; (refine m_mov (by conv => lhs; whnf) ?_)) | refine end_ops ?_ | refine AW_ret ?_ | refine ret_done ?_)
  exact outs_u rfl
theorem notNodup {L : List Int} {k : Nat} (hk : k < L.length) (h : L.getD k 0 ∈ L.take k) : ¬ L.Nodup := by
  intro hn
  rw [← List.take_append_drop k L, List.nodup_append] at hn
  refine hn.2.2 _ h _ ?_ rfl
  have : L.drop k = L.getD k 0 :: L.drop (k + 1) := by rw [List.drop_eq_getElem_cons hk]; simp [hk]
  rw [this]
  exact List.mem_cons_self ..
theorem nodupSnoc {L : List Int} {k : Nat} (hk : k < L.length) (hn : (L.take k).Nodup) (h : L.getD k 0 ∉ L.take k) : (L.take (k + 1)).Nodup := by
  rw [take_snoc L k 0 hk, List.nodup_append]
  refine ⟨hn, by simp, ?_⟩
  intro a ha b hb hab
  rw [List.mem_singleton] at hb
  subst hb
  exact h (hab ▸ ha)
theorem areDifferent_spec (L : List Int) (n : Nat) (_hL : L.length ≤ 1048576) (hn16 : n ≤ 16) : Sp Try.prog 96 [ints L, .i n] (.b (decide ((∀ x ∈ L, 0 ≤ x ∧ x < (n : Int)) ∧ L.Nodup))) := by
  refine spec_of Try.func96 rfl cc96 rfl ?_
  unfold ac96
  repeat (first | (refine step_ops ?_; (first | (refine m_mov (by conv => lhs; whnf) ?_) | (refine m_len_ro rfl ?_))) | refine end_ops ?_ | refine seq_ops ?_ | refine AW_seq ?_ | refine AW_block ?_)
  refine AW_loop (α := Nat × Nat) (fun p => p.1 ≤ L.length ∧ p.2 < 65536 ∧ (∀ x ∈ L.take p.1, 0 ≤ x ∧ x < (n : Int)) ∧ (L.take p.1).Nodup ∧ ∀ i < 16, p.2.testBit i = decide ((i : Int) ∈ L.take p.1))
    (fun p => st [(0, ints L), (1, .i n), (5, .u p.2), (8, ints L), (9, .i L.length), (10, .i p.1)] []) (fun p => L.length - p.1) (0, 0) ⟨Nat.zero_le _, by decide, by simp, by simp, fun i _ => by simp⟩ (weak_st ?_ ?_ rfl rfl) ?_
  · (repeat' (first | exact trivial | refine And.intro ?_ ?_)) <;> (first | rfl | skip)
  · trivial
  rintro ⟨k, a⟩ ⟨hk, ha, hr, hn, hb⟩
  dsimp only at hk ha hr hn hb ⊢
  by_cases h : k < L.length
  · by_cases hx : 0 ≤ L.getD k 0 ∧ L.getD k 0 < (n : Int)
    · obtain ⟨i, hi⟩ := Int.eq_ofNat_of_zero_le hx.1
      have hi16 : i < 16 := by omega
      have hbi := hb i hi16
      by_cases hm : (i : Int) ∈ L.take k
      · have hbt : a.testBit i = true := by rw [hbi]; exact decide_eq_true hm
        repeat (first | (refine step_ops ?_; (first | (refine m_mov (by conv => lhs; whnf) ?_) | (refine m_lss rfl rfl ?_) | (refine m_idx1_ro rfl rfl ?_ ?_; (· omega)) | (refine m_ld_rpi rfl ?_ ?_; (· omega)))) | refine end_ops ?_ | refine seq_ops ?_ | (refine cond_t rfl ?_ ?_; (· first | rfl | assumption | (refine decide_eq_true ?_; first | assumption | omega) | (refine nt ?_; first | assumption | omega) | (simp [*]; done))) | refine skip_then ?_ | refine AW_seq ?_ | refine AW_block ?_)
        (refine step_ops ?_); (apply m_call (isGuest_spec _ _)); (· repeat (first | exact lends_nil | (refine lends_cons ?_ ?_; (· exact lend_v))))
        repeat (refine step_ops ?_; ((try (refine g_yes rfl ?_ ?_; (· first | rfl | assumption | (refine decide_eq_true ?_; first | assumption | omega) | (refine nt ?_; first | assumption | omega) | (simp [*]; done) | (refine decide_eq_false ?_; first | assumption | omega) | (refine nf ?_; first | assumption | omega)))); (first | (refine m_mov (by conv => lhs; whnf) ?_) | (refine m_not rfl ?_))))
        rw [hi]
        skip
        (refine step_ops ?_); (refine g_yes rfl ?_ ?_; (· first | (first | rfl | assumption | (refine decide_eq_true ?_; first | assumption | omega) | (refine nt ?_; first | assumption | omega) | (simp [*]; done)) | (first | rfl | assumption | (refine decide_eq_false ?_; first | assumption | omega) | (refine nf ?_; first | assumption | omega) | (simp [*]; done))); (apply m_call (setHas_spec a i ha (by omega)))); (· repeat (first | exact lends_nil | (refine lends_cons ?_ ?_; (· exact lend_v))))
        repeat (first | (refine step_ops ?_; (first | (refine m_mov (by conv => lhs; whnf) ?_) | (refine m_pick_f rfl ?_ (by conv => lhs; whnf) ?_; (· first | rfl | assumption | (refine decide_eq_false ?_; first | assumption | omega) | (refine nf ?_; first | assumption | omega) | (simp [*]; done))))) | refine end_ops ?_ | refine seq_ops ?_ | (refine cond_t rfl ?_ ?_; (· first | rfl | assumption | (refine decide_eq_true ?_; first | assumption | omega) | (refine nt ?_; first | assumption | omega) | (simp [*]; done))) | refine AW_ret ?_ | refine ret_done ?_ | refine ret_then ?_ | refine ret_block ?_ | refine ret_round ?_)
        refine outs_b ?_
        symm
        exact decide_eq_false fun he => notNodup h (hi ▸ hm) he.2
      · have hbt : a.testBit i = false := by rw [hbi]; exact decide_eq_false hm
        repeat (first | (refine step_ops ?_; (first | (refine m_mov (by conv => lhs; whnf) ?_) | (refine m_lss rfl rfl ?_) | (refine m_idx1_ro rfl rfl ?_ ?_; (· omega)) | (refine m_ld_rpi rfl ?_ ?_; (· omega)))) | refine end_ops ?_ | refine seq_ops ?_ | (refine cond_t rfl ?_ ?_; (· first | rfl | assumption | (refine decide_eq_true ?_; first | assumption | omega) | (refine nt ?_; first | assumption | omega) | (simp [*]; done))) | refine skip_then ?_ | refine AW_seq ?_ | refine AW_block ?_)
        (refine step_ops ?_); (apply m_call (isGuest_spec _ _)); (· repeat (first | exact lends_nil | (refine lends_cons ?_ ?_; (· exact lend_v))))
        repeat (refine step_ops ?_; ((try (refine g_yes rfl ?_ ?_; (· first | rfl | assumption | (refine decide_eq_true ?_; first | assumption | omega) | (refine nt ?_; first | assumption | omega) | (simp [*]; done) | (refine decide_eq_false ?_; first | assumption | omega) | (refine nf ?_; first | assumption | omega)))); (first | (refine m_mov (by conv => lhs; whnf) ?_) | (refine m_not rfl ?_))))
        rw [hi]
        skip
        (refine step_ops ?_); (refine g_yes rfl ?_ ?_; (· first | (first | rfl | assumption | (refine decide_eq_true ?_; first | assumption | omega) | (refine nt ?_; first | assumption | omega) | (simp [*]; done)) | (first | rfl | assumption | (refine decide_eq_false ?_; first | assumption | omega) | (refine nf ?_; first | assumption | omega) | (simp [*]; done))); (apply m_call (setHas_spec a i ha (by omega)))); (· repeat (first | exact lends_nil | (refine lends_cons ?_ ?_; (· exact lend_v))))
        repeat (first | (refine step_ops ?_; (first | (refine m_mov (by conv => lhs; whnf) ?_) | (refine m_pick_f rfl ?_ (by conv => lhs; whnf) ?_; (· first | rfl | assumption | (refine decide_eq_false ?_; first | assumption | omega) | (refine nf ?_; first | assumption | omega) | (simp [*]; done))))) | refine end_ops ?_ | refine AW_ops ?_ | (refine cond_f rfl ?_ ?_; (· first | rfl | assumption | (refine decide_eq_false ?_; first | assumption | omega) | (refine nf ?_; first | assumption | omega) | (simp [*]; done))) | refine skip_then ?_)
        (refine step_ops ?_); (apply m_call (setWith_spec a i ha (by omega))); (· repeat (first | exact lends_nil | (refine lends_cons ?_ ?_; (· exact lend_v))))
        repeat (first | (refine step_ops ?_; (first | (refine m_mov (by conv => lhs; whnf) ?_) | (refine m_add rfl rfl ?_ ?_ ?_; (· omega); (· omega)))) | refine end_ops ?_ | refine AW_ops ?_ | refine norm_then ?_ | refine norm_block ?_)
        refine next_round (k + 1, a ||| 1 <<< i) ⟨by omega, or16_lt ha (shl16_lt (by omega)), ?_, nodupSnoc h hn (hi ▸ hm), fun j hj => ?_⟩ (weak_st ?_ ?_ rfl rfl) ?_
        · rw [take_snoc L k 0 h]
          intro x hxm
          rw [List.mem_append, List.mem_singleton] at hxm
          rcases hxm with h1 | rfl
          · exact hr x h1
          · exact hx
        · rw [bit_or, hb j hj, take_snoc L k 0 h, Bool.eq_iff_iff]
          have hji : ((j : Int) = (i : Int)) ↔ j = i := by omega
          simp only [Bool.or_eq_true, decide_eq_true_eq, List.mem_append, List.mem_singleton, hi, hji]
        · (repeat' (first | exact trivial | refine And.intro ?_ ?_)) <;> (first | rfl | skip)
        · trivial
        · show L.length - (k + 1) < L.length - k
          omega
    · repeat (first | (refine step_ops ?_; (first | (refine m_mov (by conv => lhs; whnf) ?_) | (refine m_lss rfl rfl ?_) | (refine m_idx1_ro rfl rfl ?_ ?_; (· omega)) | (refine m_ld_rpi rfl ?_ ?_; (· omega)))) | refine end_ops ?_ | refine seq_ops ?_ | (refine cond_t rfl ?_ ?_; (· first | rfl | assumption | (refine decide_eq_true ?_; first | assumption | omega) | (refine nt ?_; first | assumption | omega) | (simp [*]; done))) | refine skip_then ?_ | refine AW_seq ?_ | refine AW_block ?_)
      (refine step_ops ?_); (apply m_call (isGuest_spec _ _)); (· repeat (first | exact lends_nil | (refine lends_cons ?_ ?_; (· exact lend_v))))
      repeat (first | (refine step_ops ?_; (first | (first | (refine m_mov (by conv => lhs; whnf) ?_) | (refine m_not rfl ?_) | (refine m_pick_t rfl ?_ (by conv => lhs; whnf) ?_; (· first | rfl | assumption | (refine decide_eq_true ?_; first | assumption | omega) | (refine nt ?_; first | assumption | omega) | (simp [*]; done)))) | (refine g_noF rfl ?_ ?_; (· first | rfl | assumption | (refine decide_eq_true ?_; first | assumption | omega) | (refine nt ?_; first | assumption | omega) | (simp [*]; done))))) | refine end_ops ?_ | refine seq_ops ?_ | (refine cond_t rfl ?_ ?_; (· first | rfl | assumption | (refine decide_eq_true ?_; first | assumption | omega) | (refine nt ?_; first | assumption | omega) | (simp [*]; done))) | refine AW_ret ?_ | refine ret_done ?_ | refine ret_then ?_ | refine ret_block ?_ | refine ret_round ?_)
      refine outs_b ?_
      symm
      exact decide_eq_false fun he => hx (he.1 _ (getD_mem h))
  · repeat (first | (refine step_ops ?_; (first | (refine m_mov (by conv => lhs; whnf) ?_) | (refine m_lss rfl rfl ?_))) | refine end_ops ?_ | refine seq_ops ?_ | (refine cond_f rfl ?_ ?_; (· first | rfl | assumption | (refine decide_eq_false ?_; first | assumption | omega) | (refine nf ?_; first | assumption | omega) | (simp [*]; done))) | refine AW_seq ?_ | refine AW_ret ?_ | refine ret_done ?_ | refine norm_then ?_ | refine exit_then ?_ | refine exit_round ?_ | refine AW_exit ?_ | refine exit_block ?_)
    refine outs_b ?_
    symm
    rw [List.take_of_length_le (by omega)] at hr hn
    exact decide_eq_true ⟨hr, hn⟩
end Go.Proofs.Ytpohldecllkjbaa
