/- The abstract machine, part seventeen: states told under other names of regions; matrices: a slice of slices, each row a region of its own. -/
import Derived.Test.YtojpcpdbnmnknaaDoorAmP
namespace Go.Am
variable {P : Program} {own : Bool} {N : Nat} {s : AS} {K : AS → Prop} {d : Option Nat}

mutual
/-- Read under other names. -/
theorem simV_ren (f : Nat → Nat) (C D : Ctx) (h1 : C.heap = D.heap) (h2 : C.ro = D.ro) (hb : C.base = D.base) (h3 : C.loc = D.loc) (h4 : ∀ r, C.live r = true → C.phi r = D.phi (f r)) :
    ∀ (x : AV) (y : Value), refsV C.live x = true → SimV (renV f x) D y → SimV x C y
  | .any, _, _, _ => by simp [SimV]
  | .v x, _, _, h => by simpa [SimV, renV] using h
  | .ro fr z cs n, y, _, h => by
    simp only [SimV, renV] at h ⊢
    rw [h1, h2, hb]
    refine h.imp_right fun ⟨b, o, cap, cur, e, fz, k1, k2, k3, k4, k5, k6, k7⟩ => ⟨b, o, cap, cur, e, fz, k1, k2, k3, k4, k5, k6, ?_⟩
    exact SimL.mono _ _ _ _ ⟨fun b hb => ⟨by rw [show C.out.ro = C.ro from rfl, h2]; exact hb, by show C.heap[b]? = D.heap[b]?; rw [h1]⟩, by show C.base ≤ D.base; omega, fun e => by simp [Ctx.out] at e, fun e => by simp [Ctx.out] at e, fun e => by simp [Ctx.out] at e⟩ k7
  | .rp cs, y, _, h => by
    simp only [SimV, renV] at h ⊢
    rw [h1, h2]
    obtain ⟨b, o, cur, e, fz, k1, k2, k3, k4⟩ := h
    refine ⟨b, o, cur, e, fz, k1, k2, k3, ?_⟩
    exact SimL.mono _ _ _ _ ⟨fun b hb => ⟨by rw [show C.out.ro = C.ro from rfl, h2]; exact hb, by show C.heap[b]? = D.heap[b]?; rw [h1]⟩, by show C.base ≤ D.base; omega, fun e => by simp [Ctx.out] at e, fun e => by simp [Ctx.out] at e, fun e => by simp [Ctx.out] at e⟩ k4
  | .sl r z off n, y, hr, h => by
    simp only [SimV, renV, refsV] at h hr ⊢
    obtain ⟨k1, k2, k3⟩ := h
    refine ⟨h3.trans k1, hr, ?_⟩
    rw [h4 r hr, h1]
    exact k3
  | .pt r off, y, hr, h => by
    simp only [SimV, renV, refsV] at h hr ⊢
    obtain ⟨k1, k2, b, k3, k4⟩ := h
    exact ⟨h3.trans k1, hr, b, by rw [h4 r hr]; exact k3, by rw [h1]; exact k4⟩
  | .mp r, y, hr, h => by
    simp only [SimV, renV, refsV] at h hr ⊢
    obtain ⟨k1, k2, b, k3, k4⟩ := h
    exact ⟨h3.trans k1, hr, b, by rw [h4 r hr]; exact k3, k4⟩
  | .itr r, y, hr, h => by
    simp only [SimV, renV, refsV] at h hr ⊢
    obtain ⟨k1, k2, b, k3, k4⟩ := h
    exact ⟨h3.trans k1, hr, b, by rw [h4 r hr]; exact k3, k4⟩
  | .ob o, y, _, h => by simp [SimV, renV] at h
  | .fn g l k, y, hr, h => by
    simp only [SimV, renV, refsV] at h hr ⊢
    obtain ⟨a, b, k1, k2, k3, k4⟩ := h
    rw [renL_map, List.length_map] at k3
    exact ⟨a, b, k1, k2, k3, simL_ren f C D h1 h2 hb h3 h4 l _ hr k4⟩
  | .fu z cs n, y, _, h => by
    simp only [SimV, renV] at h ⊢
    rw [h1, h2]
    refine h.imp_right fun ⟨b, o, cur, e, fz, k1, k2, k3, k4, k5⟩ => ⟨b, o, cur, e, fz, k1, k2, k3, k4, ?_⟩
    exact SimL.mono _ _ _ _ ⟨fun b hb => ⟨by rw [show C.out.ro = C.ro from rfl, h2]; exact hb, by show C.heap[b]? = D.heap[b]?; rw [h1]⟩, by show C.base ≤ D.base; omega, fun e => by simp [Ctx.out] at e, fun e => by simp [Ctx.out] at e, fun e => by simp [Ctx.out] at e⟩ k5
  | .mit r m bm es ck, y, hr, h => by
    simp only [SimV, renV, refsV, Bool.and_eq_true] at h hr ⊢
    obtain ⟨k1, k2, ⟨b, k3, k4⟩, k5⟩ := h
    refine ⟨h3.trans k1, hr.1, ⟨b, by rw [h4 r hr.1]; exact k3, k4⟩, ?_⟩
    rcases k5 with ⟨q, hq, k6, k7⟩ | ⟨hm, k6, k7⟩
    · obtain ⟨q0, rfl, rfl⟩ := Option.map_eq_some_iff.1 hq
      have hl : C.live q0 = true := by simpa using hr.2
      exact .inl ⟨q0, rfl, hl, by rw [h4 q0 hl]; exact k7⟩
    · exact .inr ⟨by simpa using hm, by rw [h2]; exact k6, by rw [h1]; exact k7⟩
  | .rmp fr es clock, y, _, h => by
    simp only [SimV, renV] at h ⊢
    obtain ⟨b, k1, k2, k3, k4⟩ := h
    exact ⟨b, k1, by rw [h1]; exact k2, by rw [h2]; exact k3, fun e => by rw [hb]; exact k4 e⟩
  | .agg l, y, hr, h => by
    simp only [SimV, renV, refsV] at h hr ⊢
    obtain ⟨a, k1, k2, k3⟩ := h
    rw [renL_map, List.length_map] at k2
    exact ⟨a, k1, k2, simL_ren f C D h1 h2 hb h3 h4 l _ hr k3⟩
  | .tup l, y, hr, h => by
    simp only [SimV, renV, refsV] at h hr ⊢
    obtain ⟨a, k1, k2, k3⟩ := h
    rw [renL_map, List.length_map] at k2
    exact ⟨a, k1, k2, simL_ren f C D h1 h2 hb h3 h4 l _ hr k3⟩
theorem simL_ren (f : Nat → Nat) (C D : Ctx) (h1 : C.heap = D.heap) (h2 : C.ro = D.ro) (hb : C.base = D.base) (h3 : C.loc = D.loc) (h4 : ∀ r, C.live r = true → C.phi r = D.phi (f r)) :
    ∀ (l : List AV) (ys : List Value), refsL C.live l = true → SimL (renL f l) D ys → SimL l C ys
  | [], _, _, _ => by simp [SimL]
  | _ :: _, [], _, h => by simp [SimL, renL] at h
  | a :: l, y :: ys, hr, h => by
    simp only [SimL, renL, refsL, Bool.and_eq_true] at h hr ⊢
    exact ⟨simV_ren f C D h1 h2 hb h3 h4 a y hr.1 h.1, simL_ren f C D h1 h2 hb h3 h4 l ys hr.2 h.2⟩
end
theorem simL_out_any (C D : Ctx) (h1 : C.heap = D.heap) (h2 : C.ro = D.ro) (hb : C.base = D.base) (l : List AV) (ys : List Value) (h : SimL l C.out ys) : SimL l D.out ys :=
  SimL.mono _ _ _ _ ⟨fun b hb' => ⟨by rw [show D.out.ro = D.ro from rfl, ← h2]; exact hb', by show D.heap[b]? = C.heap[b]?; rw [h1]⟩, by show D.base ≤ C.base; omega, fun e => by simp [Ctx.out] at e, fun e => by simp [Ctx.out] at e, fun e => by simp [Ctx.out] at e⟩ h

/-- A region's cells under other names; one whose cells lead nowhere may be told as one whose cells may. -/
def cellsRen (f : Nat → Nat) (c c' : Bool × List AV) : Prop := (c'.1 = true ∧ c = (true, c'.2)) ∨ (c'.1 = false ∧ (c = (false, renL f c'.2) ∨ (c'.2 = [] ∧ c.2 = []) ∨ (c = (true, c'.2) ∧ c'.2.all plainV = true)))

/-- THE RULE OF FORGETTING: the state s' tells no more than s, under the names f. -/
theorem weak_ren {s s' : AS} (f : Nat → Nat) (htm : ∀ t, s'.tm t = .any ∨ s.tm t = renV f (s'.tm t)) (hhp : ∀ r c', s'.hp r = some c' → ∃ c, s.hp (f r) = some c ∧ cellsRen f c c')
    (hinj : ∀ r r', (s'.hp r).isSome = true → (s'.hp r').isSome = true → f r = f r' → r = r') (hpb : ∀ r, (s'.hp r).isSome = true → (r < pbase ∧ f r < pbase) ∨ (pbase ≤ r ∧ f r = r))
    (href : ∀ t, refsV (fun r => (s'.hp r).isSome) (s'.tm t) = true) (hrefh : ∀ r cs, s'.hp r = some (false, cs) → refsL (fun r => (s'.hp r).isSome) cs = true) : Weak s s' := by
  intro w0 mu N a w hS
  obtain ⟨hf, phi, ro, hS⟩ := hS
  have hlive : ∀ r, (s'.hp r).isSome = true → (s.hp (f r)).isSome = true := by
    intro r hr
    obtain ⟨c, hc⟩ := Option.isSome_iff_exists.1 hr
    obtain ⟨c0, h1, _⟩ := hhp r c hc
    rw [h1]; rfl
  refine ⟨hf, fun r => phi (f r), ro, { hS with
    inj := fun r r' b h1 h2 h3 h4 => hinj r r' h1 h2 (hS.inj _ _ b (hlive r h1) (hlive r' h2) h3 h4)
    liv := fun r c hc => ?_
    tms := fun t => ?_ }⟩
  · obtain ⟨c0, h1, h2⟩ := hhp r c hc
    have hp := hpb r (by rw [hc]; rfl)
    rcases hS.liv _ _ h1 with ⟨k1, k2, k3⟩ | ⟨b, cur, e, k1, k2, k3, k4, k5⟩ | ⟨b, o, rfl, k1, k2, k0, k3, k4⟩
    case inr.inr =>
      refine .inr (.inr ⟨b, o, ?_, k1, k2, k0, k3, ?_⟩)
      · obtain ⟨fl, cs⟩ := c
        rcases h2 with ⟨h3, h4⟩ | ⟨h3, h4⟩
        · simp only at h3 h4
          rw [h3]; exact h4.symm
        · simp only at h3
          rcases h4 with h4 | ⟨_, h4⟩ | ⟨h4, h5⟩
          · cases h4
          · simp at h4
          · simp only [Prod.mk.injEq, true_and] at h4
            rw [← h4] at h5
            simp [plainV] at h5
      · rcases hp with ⟨h3, h4⟩ | ⟨h3, h4⟩
        · rcases k4 with k4 | k4
          · exact .inl ⟨h3, k4.2⟩
          · omega
        · rcases k4 with k4 | k4
          · omega
          · exact .inr ⟨h3, by rw [← h4]; exact k4.2⟩
    · refine .inl ⟨k1, ?_, fun hge => ?_⟩
      · rcases h2 with ⟨_, rfl⟩ | ⟨_, rfl | ⟨h3, _⟩ | ⟨rfl, _⟩⟩
        · exact k2
        · simp only [renL_map] at k2
          exact List.map_eq_nil_iff.1 k2
        · exact h3
        · exact k2
      · rcases hp with ⟨h3, _⟩ | ⟨_, h3⟩
        · omega
        · rw [h3] at k3; exact k3 hge
    · refine .inr (.inl ⟨b, cur, e, k1, k2, k3, ?_, ?_⟩)
      · rcases hp with ⟨h3, h4⟩ | ⟨h3, h4⟩
        · rcases k4 with k4 | k4
          · exact .inl ⟨h3, k4.2⟩
          · omega
        · rcases k4 with k4 | k4
          · omega
          · exact .inr ⟨h3, by rw [← h4]; exact k4.2⟩
      · obtain ⟨fl, cs⟩ := c
        rcases h2 with ⟨h3, h4⟩ | ⟨h3, h4⟩
        · simp only at h3 h4
          subst h3; subst h4
          simp only [SimR, if_true] at k5 ⊢
          exact simL_out_any (ctx w0 w ro phi s) (ctx w0 w ro (fun r => phi (f r)) s') rfl rfl rfl _ _ k5
        · simp only at h3 h4
          subst h3
          simp only [SimR, Bool.false_eq_true, if_false]
          rcases h4 with rfl | ⟨h5, h6⟩ | ⟨rfl, h5⟩
          · simp only [SimR, Bool.false_eq_true, if_false] at k5
            exact simL_ren f (ctx w0 w ro (fun r => phi (f r)) s') (ctx w0 w ro phi s) rfl rfl rfl rfl (fun _ _ => rfl) cs _ (hrefh r cs hc) k5
          · rw [h5]; simp [SimL]
          · simp only [SimR, if_true] at k5
            exact simL_allv h5 k5
  · rcases htm t with h1 | h1
    · rw [h1]; simp [SimV]
    · have h2 := hS.tms t
      rw [h1] at h2
      exact simV_ren f (ctx w0 w ro (fun r => phi (f r)) s') (ctx w0 w ro phi s) rfl rfl rfl rfl (fun _ _ => rfl) _ _ (href t) h2

/-- The rows of a matrix, seen from the outer slice: regions b, b + 1, .. -/
def rowsC (b : Nat) : List (List Int) → List AV
  | [] => []
  | l :: rs => .sl b 1 0 l.length :: rowsC (b + 1) rs
theorem rowsC_len (b : Nat) (rows : List (List Int)) : (rowsC b rows).length = rows.length := by
  induction rows generalizing b with
  | nil => rfl
  | cons l rs ih => simp [rowsC, ih]
theorem rowsC_get (b : Nat) (rows : List (List Int)) (j : Nat) (hj : j < rows.length) : (rowsC b rows)[j]? = some (.sl (b + j) 1 0 (rows.getD j []).length) := by
  induction rows generalizing b j with
  | nil => simp at hj
  | cons l rs ih =>
    cases j with
    | zero => simp [rowsC]
    | succ j =>
      simp only [rowsC, List.getElem?_cons_succ]
      rw [ih (b + 1) j (by simpa using hj)]
      simp; omega
theorem rowsC_snoc (b : Nat) (rows : List (List Int)) (l : List Int) : rowsC b (rows ++ [l]) = rowsC b rows ++ [.sl (b + rows.length) 1 0 l.length] := by
  induction rows generalizing b with
  | nil => simp [rowsC]
  | cons r rs ih => simp only [List.cons_append, rowsC, ih]; congr 4; simp; omega
theorem rowsC_kill (r b : Nat) (rows : List (List Int)) (h : r < b) : killL r (rowsC b rows) = rowsC b rows := by
  induction rows generalizing b with
  | nil => rfl
  | cons l rs ih =>
    have : ¬ b = r := by omega
    simp only [rowsC, killL, killV, this, if_false]
    rw [ih (b + 1) (by omega)]
theorem rowsC_ren (f : Nat → Nat) (b b' : Nat) (rows : List (List Int)) (h : ∀ j, j < rows.length → f (b + j) = b' + j) : renL f (rowsC b rows) = rowsC b' rows := by
  induction rows generalizing b b' with
  | nil => rfl
  | cons l rs ih =>
    simp only [rowsC, renL, renV]
    have h0 := h 0 (by simp)
    rw [Nat.add_zero, Nat.add_zero] at h0
    rw [h0, ih (b + 1) (b' + 1) fun j hj => by
      have := h (j + 1) (by simpa using hj)
      rw [show b + 1 + j = b + (j + 1) by omega, this]; omega]
theorem rowsC_refs (keep : Nat → Bool) (b : Nat) (rows : List (List Int)) (h : ∀ j, j < rows.length → keep (b + j) = true) : refsL keep (rowsC b rows) = true := by
  induction rows generalizing b with
  | nil => rfl
  | cons l rs ih =>
    simp only [rowsC, refsL, refsV, Bool.and_eq_true]
    refine ⟨by have := h 0 (by simp); simpa using this, ih (b + 1) fun j hj => ?_⟩
    have := h (j + 1) (by simpa using hj)
    rw [show b + 1 + j = b + (j + 1) by omega]; exact this
theorem rowsC_own (b : Nat) (rows : List (List Int)) (q : Bool) : ownL q (rowsC b rows) = true := by
  induction rows generalizing b with
  | nil => rfl
  | cons l rs ih => simp only [rowsC, ownL, ownV, Bool.true_and]; exact ih _
/-- The rows depend on their lengths alone. -/
theorem rowsC_same (b : Nat) (rows rows' : List (List Int)) (hl : rows.length = rows'.length) (h : ∀ j, j < rows.length → (rows.getD j []).length = (rows'.getD j []).length) : rowsC b rows = rowsC b rows' := by
  apply List.ext_getElem?
  intro j
  by_cases hj : j < rows.length
  · rw [rowsC_get _ _ _ hj, rowsC_get _ _ _ (by omega), h j hj]
  · rw [List.getElem?_eq_none (by rw [rowsC_len]; omega), List.getElem?_eq_none (by rw [rowsC_len]; omega)]

/-- Regions: those of h, and the rows. -/
def famH (h : Hp) (b : Nat) (rows : List (List Int)) : Hp := fun r => match h r with
  | some c => some c
  | none => if b ≤ r ∧ r < b + rows.length then some (true, (rows.getD (r - b) []).map AV.i) else none
theorem famH_row {h : Hp} {b : Nat} {rows : List (List Int)} {j : Nat} (hn : h (b + j) = none) (hj : j < rows.length) : famH h b rows (b + j) = some (true, (rows.getD j []).map AV.i) := by
  unfold famH
  rw [hn]
  simp only
  rw [if_pos ⟨by omega, by omega⟩, Nat.add_sub_cancel_left]
theorem famH_some {h : Hp} {b : Nat} {rows : List (List Int)} {r : Nat} {c : Bool × List AV} (e : famH h b rows r = some c) : h r = some c ∨ (h r = none ∧ ∃ j, j < rows.length ∧ r = b + j ∧ c = (true, (rows.getD j []).map AV.i)) := by
  unfold famH at e
  cases hr : h r with
  | some c' => rw [hr] at e; exact .inl e
  | none =>
    rw [hr] at e
    simp only at e
    split at e
    · rename_i hh
      cases e
      exact .inr ⟨rfl, r - b, by omega, by omega, rfl⟩
    · cases e

/-- A state with a matrix: the outer slice lies in region r0, its rows in regions b, b + 1, .. -/
def stM (l : List (Nat × AV)) (h : List (Nat × (Bool × List AV))) (r0 b : Nat) (rows : List (List Int)) : AS :=
  ⟨fun t => (look l t).getD .any, famH (look ((r0, (false, rowsC b rows)) :: h)) b rows⟩
theorem look_none {β : Type} {l : List (Nat × β)} {t : Nat} (h : ∀ p ∈ l, p.1 < t) : look l t = none := by
  induction l with
  | nil => rfl
  | cons p l ih =>
    have h1 := h p (List.mem_cons_self ..)
    have : ¬ t = p.1 := by omega
    obtain ⟨k, x⟩ := p
    simp only [look]
    rw [if_neg this]
    exact ih fun q hq => h q (List.mem_cons_of_mem _ hq)
theorem look_mem {β : Type} {l : List (Nat × β)} {t : Nat} {x : β} (h : look l t = some x) : (t, x) ∈ l := by
  induction l with
  | nil => simp [look] at h
  | cons p l ih =>
    obtain ⟨k, y⟩ := p
    simp only [look] at h
    split at h
    · rename_i e; subst e; cases h; exact List.mem_cons_self ..
    · exact List.mem_cons_of_mem _ (ih h)
theorem stM_row {l : List (Nat × AV)} {h : List (Nat × (Bool × List AV))} {r0 b : Nat} {rows : List (List Int)} (hk : ((r0, (false, rowsC b rows)) :: h).all (fun p => decide (p.1 < b)) = true) {j : Nat} (hj : j < rows.length) :
    (stM l h r0 b rows).hp (b + j) = some (true, (rows.getD j []).map AV.i) :=
  famH_row (look_none fun p hp => by have := List.all_eq_true.1 hk p hp; have := of_decide_eq_true this; omega) hj

def HasF (s : AS) (f : Nat → Nat) : List (Nat × AV) → Prop
  | [] => True
  | (t, x) :: l => s.tm t = renV f x ∧ HasF s f l
def HasRF (s : AS) (f : Nat → Nat) : List (Nat × (Bool × List AV)) → Prop
  | [] => True
  | (r, c) :: l => s.hp (f r) = some c ∧ HasRF s f l
theorem look_hasF {s : AS} {f : Nat → Nat} : ∀ {l : List (Nat × AV)} {t : Nat} {x : AV}, HasF s f l → look l t = some x → s.tm t = renV f x
  | [], _, _, _, h => by simp [look] at h
  | (k, y) :: l, t, x, h, e => by
    simp only [look] at e
    split at e
    · rename_i hk; subst hk; cases e; exact h.1
    · exact look_hasF h.2 e
theorem look_hasRF {s : AS} {f : Nat → Nat} : ∀ {l : List (Nat × (Bool × List AV))} {r : Nat} {c : Bool × List AV}, HasRF s f l → look l r = some c → s.hp (f r) = some c
  | [], _, _, _, h => by simp [look] at h
  | (k, y) :: l, t, x, h, e => by
    simp only [look] at e
    split at e
    · rename_i hk; subst hk; cases e; exact h.1
    · exact look_hasRF h.2 e

def nodupB : List Nat → Bool
  | [] => true
  | x :: l => !(l.contains x) && nodupB l
theorem nodupB_spec : ∀ {l : List Nat}, nodupB l = true → l.Nodup
  | [], _ => by simp
  | x :: l, h => by
    simp only [nodupB, Bool.and_eq_true, Bool.not_eq_true'] at h
    rw [List.nodup_cons]
    exact ⟨fun hm => by rw [List.contains_iff_mem.2 hm] at h; simp at h, nodupB_spec h.2⟩
/-- The names of a state that tells a matrix: f0 below b; the rows as g says. -/
def nmF (b : Nat) (f0 g : Nat → Nat) : Nat → Nat := fun r => if r < b then f0 r else g (r - b)

/-- A state with a matrix whose outer slice has the cells cs. -/
def stC (l : List (Nat × AV)) (h : List (Nat × (Bool × List AV))) (r0 : Nat) (cs : List AV) (b : Nat) (rows : List (List Int)) : AS :=
  ⟨fun t => (look l t).getD .any, famH (look ((r0, (false, cs)) :: h)) b rows⟩
theorem stC_row {l : List (Nat × AV)} {h : List (Nat × (Bool × List AV))} {r0 b : Nat} {cs : List AV} {rows : List (List Int)} (hk : ((r0, (false, cs)) :: h).all (fun p => decide (p.1 < b)) = true) {j : Nat} (hj : j < rows.length) :
    (stC l h r0 cs b rows).hp (b + j) = some (true, (rows.getD j []).map AV.i) :=
  famH_row (look_none fun p hp => by have := List.all_eq_true.1 hk p hp; have := of_decide_eq_true this; omega) hj
/-- Forgetting, to a state with a matrix whose rows are known under the names g. -/
theorem weak_matC {s : AS} {l : List (Nat × AV)} {h : List (Nat × (Bool × List AV))} {r0 b : Nat} {cs : List AV} {rows : List (List Int)} (f0 g : Nat → Nat)
    (hl : HasF s (nmF b f0 g) l) (hh : HasRF s (nmF b f0 g) h) (hflat : (h.all fun p => p.2.1) = true) (hk : (r0 :: h.map (·.1)).all (fun r => decide (r < b ∧ f0 r < b)) = true) (hpk : (r0 :: h.map (·.1)).all (fun r => decide ((r < pbase ∧ f0 r < pbase) ∨ (pbase ≤ r ∧ f0 r = r))) = true) (hpr : ∀ j, j < rows.length → (b + j < pbase ∧ g j < pbase) ∨ (pbase ≤ b + j ∧ g j = b + j)) (hr : refsT (fun r => (r0 :: h.map (·.1)).contains r) l = true)
    (h0 : ∃ c, s.hp (f0 r0) = some c ∧ cellsRen (nmF b f0 g) c (false, cs)) (hrefc : ∀ keep : Nat → Bool, (∀ j, j < rows.length → keep (b + j) = true) → refsL keep cs = true)
    (hrow : ∀ j, j < rows.length → s.hp (g j) = some (true, (rows.getD j []).map AV.i))
    (hndB : nodupB ((r0 :: h.map (·.1)).map f0) = true) (hg : ∀ j, j < rows.length → ∀ r ∈ (r0 :: h.map (·.1)), f0 r ≠ g j) (hgi : ∀ j j', j < rows.length → j' < rows.length → g j = g j' → j = j') : Weak s (stC l h r0 cs b rows) := by
  have hnd := nodupB_spec hndB
  have hkey : ∀ r c, look ((r0, (false, cs)) :: h) r = some c → r ∈ (r0 :: h.map (·.1)) := by
    intro r c hc
    have h1 : r ∈ ((r0, (false, cs)) :: h).map (·.1) := List.mem_map.2 ⟨(r, c), look_mem hc, rfl⟩
    simpa using h1
  have hklt : ∀ r ∈ (r0 :: h.map (·.1)), r < b ∧ f0 r < b := fun r hr => of_decide_eq_true (List.all_eq_true.1 hk r hr)
  have hall : ((r0, (false, cs)) :: h).all (fun p => decide (p.1 < b)) = true := by
    rw [List.all_eq_true]
    intro p hp
    exact decide_eq_true (hklt p.1 (List.mem_map.2 ⟨p, hp, rfl⟩)).1
  have hinj0 : ∀ r ∈ (r0 :: h.map (·.1)), ∀ r' ∈ (r0 :: h.map (·.1)), f0 r = f0 r' → r = r' := by
    generalize r0 :: h.map (·.1) = ks at hnd
    clear hkey hklt hg hr hk hpk hndB
    induction ks with
    | nil => intro r hr; simp at hr
    | cons k ks ih =>
      rw [List.map_cons, List.nodup_cons] at hnd
      intro r hr r' hr' e
      rcases List.mem_cons.1 hr with h1 | h1
      · rcases List.mem_cons.1 hr' with h2 | h2
        · rw [h1, h2]
        · rw [h1] at e
          exact absurd (List.mem_map.2 ⟨r', h2, e.symm⟩) hnd.1
      · rcases List.mem_cons.1 hr' with h2 | h2
        · rw [h2] at e
          exact absurd (List.mem_map.2 ⟨r, h1, e⟩) hnd.1
        · exact ih hnd.2 r h1 r' h2 e
  have hsome : ∀ r, ((stC l h r0 cs b rows).hp r).isSome = true → (r ∈ (r0 :: h.map (·.1)) ∧ nmF b f0 g r = f0 r) ∨ ∃ j, j < rows.length ∧ r = b + j ∧ nmF b f0 g r = g j := by
    intro r hr
    obtain ⟨c, hc⟩ := Option.isSome_iff_exists.1 hr
    rcases famH_some hc with h1 | ⟨_, j, hj, rfl, _⟩
    · have hm := hkey r c h1
      exact .inl ⟨hm, by unfold nmF; rw [if_pos (hklt r hm).1]⟩
    · exact .inr ⟨j, hj, rfl, by unfold nmF; rw [if_neg (by omega), Nat.add_sub_cancel_left]⟩
  have hlive : ∀ r, r ∈ (r0 :: h.map (·.1)) → ((stC l h r0 cs b rows).hp r).isSome = true := by
    intro r hr
    show (famH (look ((r0, (false, cs)) :: h)) b rows r).isSome = true
    have : ∃ c, look ((r0, (false, cs)) :: h) r = some c := by
      have key : ∀ l : List (Nat × (Bool × List AV)), r ∈ l.map (·.1) → ∃ c, look l r = some c := by
        intro l
        induction l with
        | nil => intro h; simp at h
        | cons p l ih =>
          intro h
          obtain ⟨k, y⟩ := p
          simp only [look]
          by_cases e : r = k
          · exact ⟨y, if_pos e⟩
          · rw [if_neg e]
            rw [List.map_cons, List.mem_cons] at h
            exact ih (h.resolve_left e)
      exact key _ (by simpa using hr)
    obtain ⟨c, hc⟩ := this
    unfold famH
    rw [hc]; rfl
  have hliveR : ∀ j, j < rows.length → ((stC l h r0 cs b rows).hp (b + j)).isSome = true := fun j hj => by rw [stC_row hall hj]; rfl
  refine weak_ren (nmF b f0 g) (fun t => ?_) (fun r c' hc => ?_) (fun r r' h1 h2 h3 => ?_) (fun r h1 => ?_) (fun t => ?_) (fun r cs' hc => ?_)
  · show (look l t).getD .any = .any ∨ s.tm t = renV _ ((look l t).getD .any)
    cases hx : look l t with
    | none => exact .inl rfl
    | some x => exact .inr (look_hasF hl hx)
  · rcases famH_some hc with h1 | ⟨h1, j, hj, rfl, rfl⟩
    · have hm := hkey r c' h1
      have hnm : nmF b f0 g r = f0 r := by unfold nmF; rw [if_pos (hklt r hm).1]
      simp only [look] at h1
      split at h1
      · rename_i e
        cases h1
        rw [hnm, e]
        exact h0
      · refine ⟨_, look_hasRF hh h1, .inl ⟨?_, ?_⟩⟩
        · exact List.all_eq_true.1 hflat _ (look_mem h1)
        · have := List.all_eq_true.1 hflat _ (look_mem h1)
          obtain ⟨fl, cs⟩ := c'
          simp only at this
          subst this; rfl
    · refine ⟨_, ?_, .inl ⟨rfl, rfl⟩⟩
      unfold nmF
      rw [if_neg (by omega), Nat.add_sub_cancel_left]
      exact hrow j hj
  · rcases hsome r h1 with ⟨m1, e1⟩ | ⟨j, hj, rfl, e1⟩
    · rcases hsome r' h2 with ⟨m2, e2⟩ | ⟨j', hj', rfl, e2⟩
      · rw [e1, e2] at h3
        exact hinj0 r m1 r' m2 h3
      · rw [e1, e2] at h3
        exact absurd h3 (hg j' hj' r m1)
    · rcases hsome r' h2 with ⟨m2, e2⟩ | ⟨j', hj', rfl, e2⟩
      · rw [e1, e2] at h3
        exact absurd h3.symm (hg j hj r' m2)
      · rw [e1, e2] at h3
        rw [hgi j j' hj hj' h3]
  · rcases hsome r h1 with ⟨m1, e1⟩ | ⟨j, hj, rfl, e1⟩
    · have := of_decide_eq_true (List.all_eq_true.1 hpk r m1)
      rw [e1]; exact this
    · rw [e1]; exact hpr j hj
  · show refsV _ ((look l t).getD .any) = true
    cases hx : look l t with
    | none => rfl
    | some x =>
      have h1 := look_refs hr hx
      have key := AV.rec_1 (motive_1 := fun x => refsV (fun r => (r0 :: h.map (·.1)).contains r) x = true → refsV (fun r => ((stC l h r0 cs b rows).hp r).isSome) x = true) (motive_2 := fun l' => refsL (fun r => (r0 :: h.map (·.1)).contains r) l' = true → refsL (fun r => ((stC l h r0 cs b rows).hp r).isSome) l' = true)
        (by simp [refsV]) (by simp [refsV]) (by intros; simp [refsV]) (by intros; simp [refsV]) (fun q _ _ _ hq => by simp only [refsV] at hq ⊢; exact hlive q (List.contains_iff_mem.1 hq))
        (fun q _ hq => by simp only [refsV] at hq ⊢; exact hlive q (List.contains_iff_mem.1 hq)) (fun l hl hq => by simp only [refsV] at hq ⊢; exact hl hq) (fun l hl hq => by simp only [refsV] at hq ⊢; exact hl hq)
        (fun q hq => by simp only [refsV] at hq ⊢; exact hlive q (List.contains_iff_mem.1 hq)) (fun q hq => by simp only [refsV] at hq ⊢; exact hlive q (List.contains_iff_mem.1 hq)) (by intros; simp [refsV]) (fun f l k hl hq => by simp only [refsV] at hq ⊢; exact hl hq) (by intros; simp [refsV]) (by intros; simp [refsV]) (fun q m _ _ _ hq => by
          simp only [refsV, Bool.and_eq_true] at hq ⊢
          refine ⟨hlive q (List.contains_iff_mem.1 hq.1), ?_⟩
          cases m with
          | none => rfl
          | some k => exact hlive k (List.contains_iff_mem.1 (by simpa using hq.2)))
        (by simp [refsL]) (fun a l ha hl hq => by simp only [refsL, Bool.and_eq_true] at hq ⊢; exact ⟨ha hq.1, hl hq.2⟩) [x]
      have := key (by simp only [refsL, Bool.and_eq_true, and_true]; exact h1)
      simp only [refsL, Bool.and_eq_true, and_true] at this
      exact this
  · rcases famH_some hc with h1 | ⟨_, j, _, _, h2⟩
    · simp only [look] at h1
      split at h1
      · cases h1
        exact hrefc _ hliveR
      · have := List.all_eq_true.1 hflat _ (look_mem h1)
        simp at this
    · cases h2

/-- Forgetting, to a state with a matrix whose rows are known under the names g. -/
theorem weak_mat {s : AS} {l : List (Nat × AV)} {h : List (Nat × (Bool × List AV))} {r0 b : Nat} {rows : List (List Int)} (f0 g : Nat → Nat)
    (hl : HasF s (nmF b f0 g) l) (hh : HasRF s (nmF b f0 g) h) (hflat : (h.all fun p => p.2.1) = true) (hk : (r0 :: h.map (·.1)).all (fun r => decide (r < b ∧ f0 r < b)) = true) (hpk : (r0 :: h.map (·.1)).all (fun r => decide ((r < pbase ∧ f0 r < pbase) ∨ (pbase ≤ r ∧ f0 r = r))) = true) (hpr : ∀ j, j < rows.length → (b + j < pbase ∧ g j < pbase) ∨ (pbase ≤ b + j ∧ g j = b + j)) (hr : refsT (fun r => (r0 :: h.map (·.1)).contains r) l = true)
    (h0 : ∃ fl cs, s.hp (f0 r0) = some (fl, cs) ∧ (fl = false ∧ cs = renL (nmF b f0 g) (rowsC b rows) ∨ rows = [] ∧ cs = []))
    (hrow : ∀ j, j < rows.length → s.hp (g j) = some (true, (rows.getD j []).map AV.i))
    (hndB : nodupB ((r0 :: h.map (·.1)).map f0) = true) (hg : ∀ j, j < rows.length → ∀ r ∈ (r0 :: h.map (·.1)), f0 r ≠ g j) (hgi : ∀ j j', j < rows.length → j' < rows.length → g j = g j' → j = j') : Weak s (stM l h r0 b rows) := by
  obtain ⟨fl, cs, h1, h2⟩ := h0
  refine weak_matC (cs := rowsC b rows) f0 g hl hh hflat hk hpk hpr hr ⟨_, h1, .inr ⟨rfl, ?_⟩⟩ (fun keep hkp => rowsC_refs _ _ _ hkp) hrow hndB hg hgi
  rcases h2 with ⟨rfl, rfl⟩ | ⟨h3, h4⟩
  · exact .inl rfl
  · exact .inr (.inl ⟨by show rowsC b rows = []; rw [h3]; rfl, h4⟩)
/-- Forgetting, the matrix being what it was. -/
theorem weak_keep {s : AS} {l : List (Nat × AV)} {h : List (Nat × (Bool × List AV))} {r0 b : Nat} {rows : List (List Int)} (f0 : Nat → Nat)
    (hl : HasF s (nmF b f0 fun j => b + j) l) (hh : HasRF s (nmF b f0 fun j => b + j) h) (hflat : (h.all fun p => p.2.1) = true) (hk : (r0 :: h.map (·.1)).all (fun r => decide (r < b ∧ f0 r < b)) = true)
    (hpk : (r0 :: h.map (·.1)).all (fun r => decide ((r < pbase ∧ f0 r < pbase) ∨ (pbase ≤ r ∧ f0 r = r))) = true) (hb : b + rows.length ≤ pbase ∨ pbase ≤ b) (hr : refsT (fun r => (r0 :: h.map (·.1)).contains r) l = true) (hndB : nodupB ((r0 :: h.map (·.1)).map f0) = true)
    {fl : Bool} {cs : List AV} (h0 : s.hp (f0 r0) = some (fl, cs)) (hcs : fl = false ∧ cs = rowsC b rows ∨ rows = [] ∧ cs = [])
    (hrow : ∀ j, j < rows.length → s.hp (b + j) = some (true, (rows.getD j []).map AV.i)) : Weak s (stM l h r0 b rows) := by
  refine weak_mat f0 (fun j => b + j) hl hh hflat hk hpk (fun j hj => by rcases hb with hb | hb; exact .inl ⟨by omega, by omega⟩; exact .inr ⟨by omega, rfl⟩) hr ⟨fl, cs, h0, ?_⟩ hrow hndB (fun j hj r hr => ?_) (fun j j' _ _ e => by omega)
  · rcases hcs with ⟨h1, h2⟩ | h1
    · exact .inl ⟨h1, by rw [h2, rowsC_ren _ b b]; intro j _; unfold nmF; rw [if_neg (by omega), Nat.add_sub_cancel_left]⟩
    · exact .inr h1
  · have := of_decide_eq_true (List.all_eq_true.1 hk r hr)
    omega
def gpush (b m q : Nat) : Nat → Nat := fun j => if j < m then b + j else q
theorem renL_append (f : Nat → Nat) (l m : List AV) : renL f (l ++ m) = renL f l ++ renL f m := by rw [renL_map, renL_map, renL_map, List.map_append]
/-- Forgetting, a region having become a row. -/
theorem weak_push {s : AS} {l : List (Nat × AV)} {h : List (Nat × (Bool × List AV))} {r0 b : Nat} {rows : List (List Int)} {row : List Int} (f0 : Nat → Nat) (q : Nat)
    (hl : HasF s (nmF b f0 (gpush b rows.length q)) l) (hh : HasRF s (nmF b f0 (gpush b rows.length q)) h) (hflat : (h.all fun p => p.2.1) = true) (hk : (r0 :: h.map (·.1)).all (fun r => decide (r < b ∧ f0 r < b)) = true)
    (hpk : (r0 :: h.map (·.1)).all (fun r => decide ((r < pbase ∧ f0 r < pbase) ∨ (pbase ≤ r ∧ f0 r = r))) = true) (hb : b + rows.length + 1 ≤ pbase) (hr : refsT (fun r => (r0 :: h.map (·.1)).contains r) l = true) (hndB : nodupB ((r0 :: h.map (·.1)).map f0) = true)
    (hqb : q < b) (hqn : ((r0 :: h.map (·.1)).map f0).contains q = false)
    {cs : List AV} (h0 : s.hp (f0 r0) = some (false, cs)) (hcs : cs = rowsC b rows ++ [.sl q 1 0 row.length]) (hq : s.hp q = some (true, row.map AV.i))
    (hrow : ∀ j, j < rows.length → s.hp (b + j) = some (true, (rows.getD j []).map AV.i)) : Weak s (stM l h r0 b (rows ++ [row])) := by
  have hlen : (rows ++ [row]).length = rows.length + 1 := by simp
  refine weak_mat f0 (gpush b rows.length q) hl hh hflat hk hpk (fun j hj => .inl ⟨by omega, by unfold gpush; split <;> omega⟩) hr ⟨false, cs, h0, .inl ⟨rfl, ?_⟩⟩ (fun j hj => ?_) hndB (fun j hj r hr => ?_) (fun j j' h1 h2 e => ?_)
  · rw [hcs, rowsC_snoc, renL_append, rowsC_ren _ b b]
    · simp only [renL, renV]
      unfold nmF gpush
      rw [if_neg (by omega), Nat.add_sub_cancel_left, if_neg (by omega)]
    · intro j hj
      unfold nmF gpush
      rw [if_neg (by omega), Nat.add_sub_cancel_left, if_pos hj]
  · unfold gpush
    by_cases hj' : j < rows.length
    · rw [if_pos hj', hrow j hj']
      simp [List.getElem?_append, hj']
    · have : j = rows.length := by omega
      subst this
      rw [if_neg hj', hq]
      simp
  · have := of_decide_eq_true (List.all_eq_true.1 hk r hr)
    unfold gpush
    split
    · omega
    · intro e
      have hm : q ∈ (r0 :: h.map (·.1)).map f0 := List.mem_map.2 ⟨r, hr, e⟩
      have := List.contains_iff_mem.2 hm
      rw [hqn] at this; cases this
  · unfold gpush at e
    split at e <;> split at e <;> omega
theorem hp_put (s : AS) (d : Option Nat) (x : AV) : (s.put d x).hp = s.hp := by cases d <;> rfl
theorem hp_mem_ne {s : AS} {q r : Nat} {c : Bool × List AV} (h : r ≠ q) : (s.mem q c).hp r = s.hp r := by simp [AS.mem, h]
theorem hp_kill_ne {s : AS} {q r : Nat} (h : r ≠ q) : (s.kill q).hp r = (s.hp r).map (killR q) := by simp [AS.kill, h]
theorem kill_flat (q : Nat) (cs : List AV) : (some (true, cs)).map (killR q) = some (true, cs) := rfl
end Go.Am
