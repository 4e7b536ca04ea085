/- The abstract machine, contracts: part 3 of what this claim needs. -/
import Derived.Test.YtmifianbkpiifaaDoorZs2
set_option linter.unusedSectionVars false
namespace Go.Am
variable [Go.Am.CodeBlk]
variable {P : Program} {own : Bool} {N : Nat} {s : AS} {K : AS → Prop} {d : Option Nat}
mutual
/-- Read under other names. -/
theorem simV_ren (f : Nat → Nat) (C D : Ctx) (h1 : C.heap = D.heap) (h2 : C.ro = D.ro) (hb : C.base = D.base) (h3 : C.loc = D.loc) (h4 : ∀ r, C.live r = true → C.phi r = D.phi (f r)) :
    ∀ (x : AV) (y : Value), refsV C.live x = true → SimV (renV f x) D y → SimV x C y
  | .any, _, _, _ => by simp [SimV]
  | .v x, _, _, h => by simpa [SimV, renV] using h
  | .ro fr z cs n, y, _, h => by
    simp only [SimV, renV] at h ⊢
    rw [h1, h2, hb]
    refine h.imp_right fun ⟨b, o, cap, cur, e, fz, k1, k2, k3, k4, k5, k6, k7⟩ => ⟨b, o, cap, cur, e, fz, k1, k2, k3, k4, k5, k6, ?_⟩
    exact SimL.mono _ _ _ _ ⟨fun b hb => ⟨by rw [show C.out.ro = C.ro from rfl, h2]; exact hb, by show C.heap[b]? = D.heap[b]?; rw [h1]⟩, by show C.base ≤ D.base; omega, fun e => by simp [Ctx.out] at e, fun e => by simp [Ctx.out] at e, fun e => by simp [Ctx.out] at e⟩ k7
  | .rp cs, y, _, h => by
    simp only [SimV, renV] at h ⊢
    rw [h1, h2]
    obtain ⟨b, o, cur, e, fz, k1, k2, k3, k4⟩ := h
    refine ⟨b, o, cur, e, fz, k1, k2, k3, ?_⟩
    exact SimL.mono _ _ _ _ ⟨fun b hb => ⟨by rw [show C.out.ro = C.ro from rfl, h2]; exact hb, by show C.heap[b]? = D.heap[b]?; rw [h1]⟩, by show C.base ≤ D.base; omega, fun e => by simp [Ctx.out] at e, fun e => by simp [Ctx.out] at e, fun e => by simp [Ctx.out] at e⟩ k4
  | .sl r z off n, y, hr, h => by
    simp only [SimV, renV, refsV] at h hr ⊢
    obtain ⟨k1, k2, k3⟩ := h
    refine ⟨h3.trans k1, hr, ?_⟩
    rw [h4 r hr, h1]
    exact k3
  | .pt r off, y, hr, h => by
    simp only [SimV, renV, refsV] at h hr ⊢
    obtain ⟨k1, k2, b, k3, k4⟩ := h
    exact ⟨h3.trans k1, hr, b, by rw [h4 r hr]; exact k3, by rw [h1]; exact k4⟩
  | .mp r, y, hr, h => by
    simp only [SimV, renV, refsV] at h hr ⊢
    obtain ⟨k1, k2, b, k3, k4⟩ := h
    exact ⟨h3.trans k1, hr, b, by rw [h4 r hr]; exact k3, k4⟩
  | .itr r, y, hr, h => by
    simp only [SimV, renV, refsV] at h hr ⊢
    obtain ⟨k1, k2, b, k3, k4⟩ := h
    exact ⟨h3.trans k1, hr, b, by rw [h4 r hr]; exact k3, k4⟩
  | .ob o, y, _, h => by simp [SimV, renV] at h
  | .fn g l k, y, hr, h => by
    simp only [SimV, renV, refsV] at h hr ⊢
    obtain ⟨a, b, k1, k2, k3, k4⟩ := h
    rw [renL_map, List.length_map] at k3
    exact ⟨a, b, k1, k2, k3, simL_ren f C D h1 h2 hb h3 h4 l _ hr k4⟩
  | .fu z cs n, y, _, h => by
    simp only [SimV, renV] at h ⊢
    rw [h1, h2]
    refine h.imp_right fun ⟨b, o, cur, e, fz, k1, k2, k3, k4, k5⟩ => ⟨b, o, cur, e, fz, k1, k2, k3, k4, ?_⟩
    exact SimL.mono _ _ _ _ ⟨fun b hb => ⟨by rw [show C.out.ro = C.ro from rfl, h2]; exact hb, by show C.heap[b]? = D.heap[b]?; rw [h1]⟩, by show C.base ≤ D.base; omega, fun e => by simp [Ctx.out] at e, fun e => by simp [Ctx.out] at e, fun e => by simp [Ctx.out] at e⟩ k5
  | .mit r m bm es ck, y, hr, h => by
    simp only [SimV, renV, refsV, Bool.and_eq_true] at h hr ⊢
    obtain ⟨k1, k2, ⟨b, k3, k4⟩, k5⟩ := h
    refine ⟨h3.trans k1, hr.1, ⟨b, by rw [h4 r hr.1]; exact k3, k4⟩, ?_⟩
    rcases k5 with ⟨q, hq, k6, k7⟩ | ⟨hm, k6, k7⟩
    · obtain ⟨q0, rfl, rfl⟩ := Option.map_eq_some_iff.1 hq
      have hl : C.live q0 = true := by simpa using hr.2
      exact .inl ⟨q0, rfl, hl, by rw [h4 q0 hl]; exact k7⟩
    · exact .inr ⟨by simpa using hm, by rw [h2]; exact k6, by rw [h1]; exact k7⟩
  | .rmp fr es clock, y, _, h => by
    simp only [SimV, renV] at h ⊢
    obtain ⟨b, k1, k2, k3, k4⟩ := h
    exact ⟨b, k1, by rw [h1]; exact k2, by rw [h2]; exact k3, fun e => by rw [hb]; exact k4 e⟩
  | .agg l, y, hr, h => by
    simp only [SimV, renV, refsV] at h hr ⊢
    obtain ⟨a, k1, k2, k3⟩ := h
    rw [renL_map, List.length_map] at k2
    exact ⟨a, k1, k2, simL_ren f C D h1 h2 hb h3 h4 l _ hr k3⟩
  | .tup l, y, hr, h => by
    simp only [SimV, renV, refsV] at h hr ⊢
    obtain ⟨a, k1, k2, k3⟩ := h
    rw [renL_map, List.length_map] at k2
    exact ⟨a, k1, k2, simL_ren f C D h1 h2 hb h3 h4 l _ hr k3⟩
theorem simL_ren (f : Nat → Nat) (C D : Ctx) (h1 : C.heap = D.heap) (h2 : C.ro = D.ro) (hb : C.base = D.base) (h3 : C.loc = D.loc) (h4 : ∀ r, C.live r = true → C.phi r = D.phi (f r)) :
    ∀ (l : List AV) (ys : List Value), refsL C.live l = true → SimL (renL f l) D ys → SimL l C ys
  | [], _, _, _ => by simp [SimL]
  | _ :: _, [], _, h => by simp [SimL, renL] at h
  | a :: l, y :: ys, hr, h => by
    simp only [SimL, renL, refsL, Bool.and_eq_true] at h hr ⊢
    exact ⟨simV_ren f C D h1 h2 hb h3 h4 a y hr.1 h.1, simL_ren f C D h1 h2 hb h3 h4 l ys hr.2 h.2⟩
end
theorem simL_out_any (C D : Ctx) (h1 : C.heap = D.heap) (h2 : C.ro = D.ro) (hb : C.base = D.base) (l : List AV) (ys : List Value) (h : SimL l C.out ys) : SimL l D.out ys :=
  SimL.mono _ _ _ _ ⟨fun b hb' => ⟨by rw [show D.out.ro = D.ro from rfl, ← h2]; exact hb', by show D.heap[b]? = C.heap[b]?; rw [h1]⟩, by show D.base ≤ C.base; omega, fun e => by simp [Ctx.out] at e, fun e => by simp [Ctx.out] at e, fun e => by simp [Ctx.out] at e⟩ h
/-- A region's cells under other names; one whose cells lead nowhere may be told asx one whose cells may. -/
def cellsRen (f : Nat → Nat) (c c' : Bool × List AV) : Prop := (c'.1 = true ∧ c = (true, c'.2)) ∨ (c'.1 = false ∧ (c = (false, renL f c'.2) ∨ (c'.2 = [] ∧ c.2 = []) ∨ (c = (true, c'.2) ∧ c'.2.all plainV = true)))
/-- THE RULE OF FORGETTING: the state s' tells no more than s, under the names f. -/
theorem weak_ren {s s' : AS} (f : Nat → Nat) (htm : ∀ t, s'.tm t = .any ∨ s.tm t = renV f (s'.tm t)) (hhp : ∀ r c', s'.hp r = some c' → ∃ c, s.hp (f r) = some c ∧ cellsRen f c c')
    (hinj : ∀ r r', (s'.hp r).isSome = true → (s'.hp r').isSome = true → f r = f r' → r = r') (hpb : ∀ r, (s'.hp r).isSome = true → (r < pbase ∧ f r < pbase) ∨ (pbase ≤ r ∧ f r = r))
    (href : ∀ t, refsV (fun r => (s'.hp r).isSome) (s'.tm t) = true) (hrefh : ∀ r cs, s'.hp r = some (false, cs) → refsL (fun r => (s'.hp r).isSome) cs = true) : Weak s s' := by
  intro w0 mu N a w hS
  obtain ⟨hf, phi, ro, hS⟩ := hS
  have hlive : ∀ r, (s'.hp r).isSome = true → (s.hp (f r)).isSome = true := by
    intro r hr
    obtain ⟨c, hc⟩ := Option.isSome_iff_exists.1 hr
    obtain ⟨c0, h1, _⟩ := hhp r c hc
    rw [h1]; rfl
  refine ⟨hf, fun r => phi (f r), ro, { hS with
    inj := fun r r' b h1 h2 h3 h4 => hinj r r' h1 h2 (hS.inj _ _ b (hlive r h1) (hlive r' h2) h3 h4)
    liv := fun r c hc => ?_
    tms := fun t => ?_ }⟩
  · obtain ⟨c0, h1, h2⟩ := hhp r c hc
    have hp := hpb r (by rw [hc]; rfl)
    rcases hS.liv _ _ h1 with ⟨k1, k2, k3⟩ | ⟨b, cur, e, k1, k2, k3, k4, k5⟩ | ⟨b, o, rfl, k1, k2, k0, k3, k4⟩
    case inr.inr =>
      refine .inr (.inr ⟨b, o, ?_, k1, k2, k0, k3, ?_⟩)
      · obtain ⟨fl, cs⟩ := c
        rcases h2 with ⟨h3, h4⟩ | ⟨h3, h4⟩
        · simp only at h3 h4
          rw [h3]; exact h4.symm
        · simp only at h3
          rcases h4 with h4 | ⟨_, h4⟩ | ⟨h4, h5⟩
          · cases h4
          · simp at h4
          · simp only [Prod.mk.injEq, true_and] at h4
            rw [← h4] at h5
            simp [plainV] at h5
      · rcases hp with ⟨h3, h4⟩ | ⟨h3, h4⟩
        · rcases k4 with k4 | k4
          · exact .inl ⟨h3, k4.2⟩
          · omega
        · rcases k4 with k4 | k4
          · omega
          · exact .inr ⟨h3, by rw [← h4]; exact k4.2⟩
    · refine .inl ⟨k1, ?_, fun hge => ?_⟩
      · rcases h2 with ⟨_, rfl⟩ | ⟨_, rfl | ⟨h3, _⟩ | ⟨rfl, _⟩⟩
        · exact k2
        · simp only [renL_map] at k2
          exact List.map_eq_nil_iff.1 k2
        · exact h3
        · exact k2
      · rcases hp with ⟨h3, _⟩ | ⟨_, h3⟩
        · omega
        · rw [h3] at k3; exact k3 hge
    · refine .inr (.inl ⟨b, cur, e, k1, k2, k3, ?_, ?_⟩)
      · rcases hp with ⟨h3, h4⟩ | ⟨h3, h4⟩
        · rcases k4 with k4 | k4
          · exact .inl ⟨h3, k4.2⟩
          · omega
        · rcases k4 with k4 | k4
          · omega
          · exact .inr ⟨h3, by rw [← h4]; exact k4.2⟩
      · obtain ⟨fl, cs⟩ := c
        rcases h2 with ⟨h3, h4⟩ | ⟨h3, h4⟩
        · simp only at h3 h4
          subst h3; subst h4
          simp only [SimR, if_true] at k5 ⊢
          exact simL_out_any (ctx w0 w ro phi s) (ctx w0 w ro (fun r => phi (f r)) s') rfl rfl rfl _ _ k5
        · simp only at h3 h4
          subst h3
          simp only [SimR, Bool.false_eq_true, if_false]
          rcases h4 with rfl | ⟨h5, h6⟩ | ⟨rfl, h5⟩
          · simp only [SimR, Bool.false_eq_true, if_false] at k5
            exact simL_ren f (ctx w0 w ro (fun r => phi (f r)) s') (ctx w0 w ro phi s) rfl rfl rfl rfl (fun _ _ => rfl) cs _ (hrefh r cs hc) k5
          · rw [h5]; simp [SimL]
          · simp only [SimR, if_true] at k5
            exact simL_allv h5 k5
  · rcases htm t with h1 | h1
    · rw [h1]; simp [SimV]
    · have h2 := hS.tms t
      rw [h1] at h2
      exact simV_ren f (ctx w0 w ro (fun r => phi (f r)) s') (ctx w0 w ro phi s) rfl rfl rfl rfl (fun _ _ => rfl) _ _ (href t) h2
/-- The rows of a matrix, seen from the outer slice: regions b, b + 1, .. -/
def rowsC (b : Nat) : List (List Int) → List AV
  | [] => []
  | l :: rs => .sl b 1 0 l.length :: rowsC (b + 1) rs
theorem rowsC_len (b : Nat) (rows : List (List Int)) : (rowsC b rows).length = rows.length := by
  induction rows generalizing b with
  | nil => rfl
  | cons l rs ih => simp [rowsC, ih]
theorem rowsC_get (b : Nat) (rows : List (List Int)) (j : Nat) (hj : j < rows.length) : (rowsC b rows)[j]? = some (.sl (b + j) 1 0 (rows.getD j []).length) := by
  induction rows generalizing b j with
  | nil => simp at hj
  | cons l rs ih =>
    cases j with
    | zero => simp [rowsC]
    | succ j =>
      simp only [rowsC, List.getElem?_cons_succ]
      rw [ih (b + 1) j (by simpa using hj)]
      simp; omega
theorem rowsC_snoc (b : Nat) (rows : List (List Int)) (l : List Int) : rowsC b (rows ++ [l]) = rowsC b rows ++ [.sl (b + rows.length) 1 0 l.length] := by
  induction rows generalizing b with
  | nil => simp [rowsC]
  | cons r rs ih => simp only [List.cons_append, rowsC, ih]; congr 4; simp; omega
theorem rowsC_kill (r b : Nat) (rows : List (List Int)) (h : r < b) : killL r (rowsC b rows) = rowsC b rows := by
  induction rows generalizing b with
  | nil => rfl
  | cons l rs ih =>
    have : ¬ b = r := by omega
    simp only [rowsC, killL, killV, this, if_false]
    rw [ih (b + 1) (by omega)]
theorem rowsC_ren (f : Nat → Nat) (b b' : Nat) (rows : List (List Int)) (h : ∀ j, j < rows.length → f (b + j) = b' + j) : renL f (rowsC b rows) = rowsC b' rows := by
  induction rows generalizing b b' with
  | nil => rfl
  | cons l rs ih =>
    simp only [rowsC, renL, renV]
    have h0 := h 0 (by simp)
    rw [Nat.add_zero, Nat.add_zero] at h0
    rw [h0, ih (b + 1) (b' + 1) fun j hj => by
      have := h (j + 1) (by simpa using hj)
      rw [show b + 1 + j = b + (j + 1) by omega, this]; omega]
theorem rowsC_refs (keep : Nat → Bool) (b : Nat) (rows : List (List Int)) (h : ∀ j, j < rows.length → keep (b + j) = true) : refsL keep (rowsC b rows) = true := by
  induction rows generalizing b with
  | nil => rfl
  | cons l rs ih =>
    simp only [rowsC, refsL, refsV, Bool.and_eq_true]
    refine ⟨by have := h 0 (by simp); simpa using this, ih (b + 1) fun j hj => ?_⟩
    have := h (j + 1) (by simpa using hj)
    rw [show b + 1 + j = b + (j + 1) by omega]; exact this
theorem rowsC_own (b : Nat) (rows : List (List Int)) (q : Bool) : ownL q (rowsC b rows) = true := by
  induction rows generalizing b with
  | nil => rfl
  | cons l rs ih => simp only [rowsC, ownL, ownV, Bool.true_and]; exact ih _
/-- Regions: those of h, and the rows. -/
def famH (h : Hp) (b : Nat) (rows : List (List Int)) : Hp := fun r => match h r with
  | some c => some c
  | none => if b ≤ r ∧ r < b + rows.length then some (true, (rows.getD (r - b) []).map AV.i) else none
theorem famH_row {h : Hp} {b : Nat} {rows : List (List Int)} {j : Nat} (hn : h (b + j) = none) (hj : j < rows.length) : famH h b rows (b + j) = some (true, (rows.getD j []).map AV.i) := by
  unfold famH
  rw [hn]
  simp only
  rw [if_pos ⟨by omega, by omega⟩, Nat.add_sub_cancel_left]
theorem famH_some {h : Hp} {b : Nat} {rows : List (List Int)} {r : Nat} {c : Bool × List AV} (e : famH h b rows r = some c) : h r = some c ∨ (h r = none ∧ ∃ j, j < rows.length ∧ r = b + j ∧ c = (true, (rows.getD j []).map AV.i)) := by
  unfold famH at e
  cases hr : h r with
  | some c' => rw [hr] at e; exact .inl e
  | none =>
    rw [hr] at e
    simp only at e
    split at e
    · rename_i hh
      cases e
      exact .inr ⟨rfl, r - b, by omega, by omega, rfl⟩
    · cases e
/-- A state with a matrix: the outer slice lies in region r0, its rows in regions b, b + 1, .. -/
def stM (l : List (Nat × AV)) (h : List (Nat × (Bool × List AV))) (r0 b : Nat) (rows : List (List Int)) : AS :=
  ⟨fun t => (look l t).getD .any, famH (look ((r0, (false, rowsC b rows)) :: h)) b rows⟩
theorem look_none {β : Type} {l : List (Nat × β)} {t : Nat} (h : ∀ p ∈ l, p.1 < t) : look l t = none := by
  induction l with
  | nil => rfl
  | cons p l ih =>
    have h1 := h p (List.mem_cons_self ..)
    have : ¬ t = p.1 := by omega
    obtain ⟨k, x⟩ := p
    simp only [look]
    rw [if_neg this]
    exact ih fun q hq => h q (List.mem_cons_of_mem _ hq)
theorem look_mem {β : Type} {l : List (Nat × β)} {t : Nat} {x : β} (h : look l t = some x) : (t, x) ∈ l := by
  induction l with
  | nil => simp [look] at h
  | cons p l ih =>
    obtain ⟨k, y⟩ := p
    simp only [look] at h
    split at h
    · rename_i e; subst e; cases h; exact List.mem_cons_self ..
    · exact List.mem_cons_of_mem _ (ih h)
theorem stM_row {l : List (Nat × AV)} {h : List (Nat × (Bool × List AV))} {r0 b : Nat} {rows : List (List Int)} (hk : ((r0, (false, rowsC b rows)) :: h).all (fun p => decide (p.1 < b)) = true) {j : Nat} (hj : j < rows.length) :
    (stM l h r0 b rows).hp (b + j) = some (true, (rows.getD j []).map AV.i) :=
  famH_row (look_none fun p hp => by have := List.all_eq_true.1 hk p hp; have := of_decide_eq_true this; omega) hj
def HasF (s : AS) (f : Nat → Nat) : List (Nat × AV) → Prop
  | [] => True
  | (t, x) :: l => s.tm t = renV f x ∧ HasF s f l
def HasRF (s : AS) (f : Nat → Nat) : List (Nat × (Bool × List AV)) → Prop
  | [] => True
  | (r, c) :: l => s.hp (f r) = some c ∧ HasRF s f l
theorem look_hasF {s : AS} {f : Nat → Nat} : ∀ {l : List (Nat × AV)} {t : Nat} {x : AV}, HasF s f l → look l t = some x → s.tm t = renV f x
  | [], _, _, _, h => by simp [look] at h
  | (k, y) :: l, t, x, h, e => by
    simp only [look] at e
    split at e
    · rename_i hk; subst hk; cases e; exact h.1
    · exact look_hasF h.2 e
theorem look_hasRF {s : AS} {f : Nat → Nat} : ∀ {l : List (Nat × (Bool × List AV))} {r : Nat} {c : Bool × List AV}, HasRF s f l → look l r = some c → s.hp (f r) = some c
  | [], _, _, _, h => by simp [look] at h
  | (k, y) :: l, t, x, h, e => by
    simp only [look] at e
    split at e
    · rename_i hk; subst hk; cases e; exact h.1
    · exact look_hasRF h.2 e
def nodupB : List Nat → Bool
  | [] => true
  | x :: l => !(l.contains x) && nodupB l
theorem nodupB_spec : ∀ {l : List Nat}, nodupB l = true → l.Nodup
  | [], _ => by simp
  | x :: l, h => by
    simp only [nodupB, Bool.and_eq_true, Bool.not_eq_true'] at h
    rw [List.nodup_cons]
    exact ⟨fun hm => by rw [List.contains_iff_mem.2 hm] at h; simp at h, nodupB_spec h.2⟩
/-- The names of a state that tells a matrix: f0 below b; the rows asx g says. -/
def nmF (b : Nat) (f0 g : Nat → Nat) : Nat → Nat := fun r => if r < b then f0 r else g (r - b)
/-- A state with a matrix whose outer slice has the cells cs. -/
def stC (l : List (Nat × AV)) (h : List (Nat × (Bool × List AV))) (r0 : Nat) (cs : List AV) (b : Nat) (rows : List (List Int)) : AS :=
  ⟨fun t => (look l t).getD .any, famH (look ((r0, (false, cs)) :: h)) b rows⟩
theorem stC_row {l : List (Nat × AV)} {h : List (Nat × (Bool × List AV))} {r0 b : Nat} {cs : List AV} {rows : List (List Int)} (hk : ((r0, (false, cs)) :: h).all (fun p => decide (p.1 < b)) = true) {j : Nat} (hj : j < rows.length) :
    (stC l h r0 cs b rows).hp (b + j) = some (true, (rows.getD j []).map AV.i) :=
  famH_row (look_none fun p hp => by have := List.all_eq_true.1 hk p hp; have := of_decide_eq_true this; omega) hj
/-- Forgetting, to a state with a matrix whose rows are known under the names g. -/
theorem weak_matC {s : AS} {l : List (Nat × AV)} {h : List (Nat × (Bool × List AV))} {r0 b : Nat} {cs : List AV} {rows : List (List Int)} (f0 g : Nat → Nat)
    (hl : HasF s (nmF b f0 g) l) (hh : HasRF s (nmF b f0 g) h) (hflat : (h.all fun p => p.2.1) = true) (hk : (r0 :: h.map (·.1)).all (fun r => decide (r < b ∧ f0 r < b)) = true) (hpk : (r0 :: h.map (·.1)).all (fun r => decide ((r < pbase ∧ f0 r < pbase) ∨ (pbase ≤ r ∧ f0 r = r))) = true) (hpr : ∀ j, j < rows.length → (b + j < pbase ∧ g j < pbase) ∨ (pbase ≤ b + j ∧ g j = b + j)) (hr : refsT (fun r => (r0 :: h.map (·.1)).contains r) l = true)
    (h0 : ∃ c, s.hp (f0 r0) = some c ∧ cellsRen (nmF b f0 g) c (false, cs)) (hrefc : ∀ keep : Nat → Bool, (∀ j, j < rows.length → keep (b + j) = true) → refsL keep cs = true)
    (hrow : ∀ j, j < rows.length → s.hp (g j) = some (true, (rows.getD j []).map AV.i))
    (hndB : nodupB ((r0 :: h.map (·.1)).map f0) = true) (hg : ∀ j, j < rows.length → ∀ r ∈ (r0 :: h.map (·.1)), f0 r ≠ g j) (hgi : ∀ j j', j < rows.length → j' < rows.length → g j = g j' → j = j') : Weak s (stC l h r0 cs b rows) := by
  have hnd := nodupB_spec hndB
  have hkey : ∀ r c, look ((r0, (false, cs)) :: h) r = some c → r ∈ (r0 :: h.map (·.1)) := by
    intro r c hc
    have h1 : r ∈ ((r0, (false, cs)) :: h).map (·.1) := List.mem_map.2 ⟨(r, c), look_mem hc, rfl⟩
    simpa using h1
  have hklt : ∀ r ∈ (r0 :: h.map (·.1)), r < b ∧ f0 r < b := fun r hr => of_decide_eq_true (List.all_eq_true.1 hk r hr)
  have hall : ((r0, (false, cs)) :: h).all (fun p => decide (p.1 < b)) = true := by
    rw [List.all_eq_true]
    intro p hp
    exact decide_eq_true (hklt p.1 (List.mem_map.2 ⟨p, hp, rfl⟩)).1
  have hinj0 : ∀ r ∈ (r0 :: h.map (·.1)), ∀ r' ∈ (r0 :: h.map (·.1)), f0 r = f0 r' → r = r' := by
    generalize r0 :: h.map (·.1) = ks at hnd
    clear hkey hklt hg hr hk hpk hndB
    induction ks with
    | nil => intro r hr; simp at hr
    | cons k ks ih =>
      rw [List.map_cons, List.nodup_cons] at hnd
      intro r hr r' hr' e
      rcases List.mem_cons.1 hr with h1 | h1
      · rcases List.mem_cons.1 hr' with h2 | h2
        · rw [h1, h2]
        · rw [h1] at e
          exact absurd (List.mem_map.2 ⟨r', h2, e.symm⟩) hnd.1
      · rcases List.mem_cons.1 hr' with h2 | h2
        · rw [h2] at e
          exact absurd (List.mem_map.2 ⟨r, h1, e⟩) hnd.1
        · exact ih hnd.2 r h1 r' h2 e
  have hsome : ∀ r, ((stC l h r0 cs b rows).hp r).isSome = true → (r ∈ (r0 :: h.map (·.1)) ∧ nmF b f0 g r = f0 r) ∨ ∃ j, j < rows.length ∧ r = b + j ∧ nmF b f0 g r = g j := by
    intro r hr
    obtain ⟨c, hc⟩ := Option.isSome_iff_exists.1 hr
    rcases famH_some hc with h1 | ⟨_, j, hj, rfl, _⟩
    · have hm := hkey r c h1
      exact .inl ⟨hm, by unfold nmF; rw [if_pos (hklt r hm).1]⟩
    · exact .inr ⟨j, hj, rfl, by unfold nmF; rw [if_neg (by omega), Nat.add_sub_cancel_left]⟩
  have hlive : ∀ r, r ∈ (r0 :: h.map (·.1)) → ((stC l h r0 cs b rows).hp r).isSome = true := by
    intro r hr
    show (famH (look ((r0, (false, cs)) :: h)) b rows r).isSome = true
    have : ∃ c, look ((r0, (false, cs)) :: h) r = some c := by
      have key : ∀ l : List (Nat × (Bool × List AV)), r ∈ l.map (·.1) → ∃ c, look l r = some c := by
        intro l
        induction l with
        | nil => intro h; simp at h
        | cons p l ih =>
          intro h
          obtain ⟨k, y⟩ := p
          simp only [look]
          by_cases e : r = k
          · exact ⟨y, if_pos e⟩
          · rw [if_neg e]
            rw [List.map_cons, List.mem_cons] at h
            exact ih (h.resolve_left e)
      exact key _ (by simpa using hr)
    obtain ⟨c, hc⟩ := this
    unfold famH
    rw [hc]; rfl
  have hliveR : ∀ j, j < rows.length → ((stC l h r0 cs b rows).hp (b + j)).isSome = true := fun j hj => by rw [stC_row hall hj]; rfl
  refine weak_ren (nmF b f0 g) (fun t => ?_) (fun r c' hc => ?_) (fun r r' h1 h2 h3 => ?_) (fun r h1 => ?_) (fun t => ?_) (fun r cs' hc => ?_)
  · show (look l t).getD .any = .any ∨ s.tm t = renV _ ((look l t).getD .any)
    cases hx : look l t with
    | none => exact .inl rfl
    | some x => exact .inr (look_hasF hl hx)
  · rcases famH_some hc with h1 | ⟨h1, j, hj, rfl, rfl⟩
    · have hm := hkey r c' h1
      have hnm : nmF b f0 g r = f0 r := by unfold nmF; rw [if_pos (hklt r hm).1]
      simp only [look] at h1
      split at h1
      · rename_i e
        cases h1
        rw [hnm, e]
        exact h0
      · refine ⟨_, look_hasRF hh h1, .inl ⟨?_, ?_⟩⟩
        · exact List.all_eq_true.1 hflat _ (look_mem h1)
        · have := List.all_eq_true.1 hflat _ (look_mem h1)
          obtain ⟨fl, cs⟩ := c'
          simp only at this
          subst this; rfl
    · refine ⟨_, ?_, .inl ⟨rfl, rfl⟩⟩
      unfold nmF
      rw [if_neg (by omega), Nat.add_sub_cancel_left]
      exact hrow j hj
  · rcases hsome r h1 with ⟨m1, e1⟩ | ⟨j, hj, rfl, e1⟩
    · rcases hsome r' h2 with ⟨m2, e2⟩ | ⟨j', hj', rfl, e2⟩
      · rw [e1, e2] at h3
        exact hinj0 r m1 r' m2 h3
      · rw [e1, e2] at h3
        exact absurd h3 (hg j' hj' r m1)
    · rcases hsome r' h2 with ⟨m2, e2⟩ | ⟨j', hj', rfl, e2⟩
      · rw [e1, e2] at h3
        exact absurd h3.symm (hg j hj r' m2)
      · rw [e1, e2] at h3
        rw [hgi j j' hj hj' h3]
  · rcases hsome r h1 with ⟨m1, e1⟩ | ⟨j, hj, rfl, e1⟩
    · have := of_decide_eq_true (List.all_eq_true.1 hpk r m1)
      rw [e1]; exact this
    · rw [e1]; exact hpr j hj
  · show refsV _ ((look l t).getD .any) = true
    cases hx : look l t with
    | none => rfl
    | some x =>
      have h1 := look_refs hr hx
      have key := AV.rec_1 (motive_1 := fun x => refsV (fun r => (r0 :: h.map (·.1)).contains r) x = true → refsV (fun r => ((stC l h r0 cs b rows).hp r).isSome) x = true) (motive_2 := fun l' => refsL (fun r => (r0 :: h.map (·.1)).contains r) l' = true → refsL (fun r => ((stC l h r0 cs b rows).hp r).isSome) l' = true)
        (by simp [refsV]) (by simp [refsV]) (by intros; simp [refsV]) (by intros; simp [refsV]) (fun q _ _ _ hq => by simp only [refsV] at hq ⊢; exact hlive q (List.contains_iff_mem.1 hq))
        (fun q _ hq => by simp only [refsV] at hq ⊢; exact hlive q (List.contains_iff_mem.1 hq)) (fun l hl hq => by simp only [refsV] at hq ⊢; exact hl hq) (fun l hl hq => by simp only [refsV] at hq ⊢; exact hl hq)
        (fun q hq => by simp only [refsV] at hq ⊢; exact hlive q (List.contains_iff_mem.1 hq)) (fun q hq => by simp only [refsV] at hq ⊢; exact hlive q (List.contains_iff_mem.1 hq)) (by intros; simp [refsV]) (fun f l k hl hq => by simp only [refsV] at hq ⊢; exact hl hq) (by intros; simp [refsV]) (by intros; simp [refsV]) (fun q m _ _ _ hq => by
          simp only [refsV, Bool.and_eq_true] at hq ⊢
          refine ⟨hlive q (List.contains_iff_mem.1 hq.1), ?_⟩
          cases m with
          | none => rfl
          | some k => exact hlive k (List.contains_iff_mem.1 (by simpa using hq.2)))
        (by simp [refsL]) (fun a l ha hl hq => by simp only [refsL, Bool.and_eq_true] at hq ⊢; exact ⟨ha hq.1, hl hq.2⟩) [x]
      have := key (by simp only [refsL, Bool.and_eq_true, and_true]; exact h1)
      simp only [refsL, Bool.and_eq_true, and_true] at this
      exact this
  · rcases famH_some hc with h1 | ⟨_, j, _, _, h2⟩
    · simp only [look] at h1
      split at h1
      · cases h1
        exact hrefc _ hliveR
      · have := List.all_eq_true.1 hflat _ (look_mem h1)
        simp at this
    · cases h2
/-- Forgetting, to a state with a matrix whose rows are known under the names g. -/
theorem weak_mat {s : AS} {l : List (Nat × AV)} {h : List (Nat × (Bool × List AV))} {r0 b : Nat} {rows : List (List Int)} (f0 g : Nat → Nat)
    (hl : HasF s (nmF b f0 g) l) (hh : HasRF s (nmF b f0 g) h) (hflat : (h.all fun p => p.2.1) = true) (hk : (r0 :: h.map (·.1)).all (fun r => decide (r < b ∧ f0 r < b)) = true) (hpk : (r0 :: h.map (·.1)).all (fun r => decide ((r < pbase ∧ f0 r < pbase) ∨ (pbase ≤ r ∧ f0 r = r))) = true) (hpr : ∀ j, j < rows.length → (b + j < pbase ∧ g j < pbase) ∨ (pbase ≤ b + j ∧ g j = b + j)) (hr : refsT (fun r => (r0 :: h.map (·.1)).contains r) l = true)
    (h0 : ∃ fl cs, s.hp (f0 r0) = some (fl, cs) ∧ (fl = false ∧ cs = renL (nmF b f0 g) (rowsC b rows) ∨ rows = [] ∧ cs = []))
    (hrow : ∀ j, j < rows.length → s.hp (g j) = some (true, (rows.getD j []).map AV.i))
    (hndB : nodupB ((r0 :: h.map (·.1)).map f0) = true) (hg : ∀ j, j < rows.length → ∀ r ∈ (r0 :: h.map (·.1)), f0 r ≠ g j) (hgi : ∀ j j', j < rows.length → j' < rows.length → g j = g j' → j = j') : Weak s (stM l h r0 b rows) := by
  obtain ⟨fl, cs, h1, h2⟩ := h0
  refine weak_matC (cs := rowsC b rows) f0 g hl hh hflat hk hpk hpr hr ⟨_, h1, .inr ⟨rfl, ?_⟩⟩ (fun keep hkp => rowsC_refs _ _ _ hkp) hrow hndB hg hgi
  rcases h2 with ⟨rfl, rfl⟩ | ⟨h3, h4⟩
  · exact .inl rfl
  · exact .inr (.inl ⟨by show rowsC b rows = []; rw [h3]; rfl, h4⟩)
/-- Forgetting, the matrix being what it was. -/
theorem weak_keep {s : AS} {l : List (Nat × AV)} {h : List (Nat × (Bool × List AV))} {r0 b : Nat} {rows : List (List Int)} (f0 : Nat → Nat)
    (hl : HasF s (nmF b f0 fun j => b + j) l) (hh : HasRF s (nmF b f0 fun j => b + j) h) (hflat : (h.all fun p => p.2.1) = true) (hk : (r0 :: h.map (·.1)).all (fun r => decide (r < b ∧ f0 r < b)) = true)
    (hpk : (r0 :: h.map (·.1)).all (fun r => decide ((r < pbase ∧ f0 r < pbase) ∨ (pbase ≤ r ∧ f0 r = r))) = true) (hb : b + rows.length ≤ pbase ∨ pbase ≤ b) (hr : refsT (fun r => (r0 :: h.map (·.1)).contains r) l = true) (hndB : nodupB ((r0 :: h.map (·.1)).map f0) = true)
    {fl : Bool} {cs : List AV} (h0 : s.hp (f0 r0) = some (fl, cs)) (hcs : fl = false ∧ cs = rowsC b rows ∨ rows = [] ∧ cs = [])
    (hrow : ∀ j, j < rows.length → s.hp (b + j) = some (true, (rows.getD j []).map AV.i)) : Weak s (stM l h r0 b rows) := by
  refine weak_mat f0 (fun j => b + j) hl hh hflat hk hpk (fun j hj => by rcases hb with hb | hb; exact .inl ⟨by omega, by omega⟩; exact .inr ⟨by omega, rfl⟩) hr ⟨fl, cs, h0, ?_⟩ hrow hndB (fun j hj r hr => ?_) (fun j j' _ _ e => by omega)
  · rcases hcs with ⟨h1, h2⟩ | h1
    · exact .inl ⟨h1, by rw [h2, rowsC_ren _ b b]; intro j _; unfold nmF; rw [if_neg (by omega), Nat.add_sub_cancel_left]⟩
    · exact .inr h1
  · have := of_decide_eq_true (List.all_eq_true.1 hk r hr)
    omega
def gpush (b m q : Nat) : Nat → Nat := fun j => if j < m then b + j else q
theorem renL_append (f : Nat → Nat) (l m : List AV) : renL f (l ++ m) = renL f l ++ renL f m := by rw [renL_map, renL_map, renL_map, List.map_append]
/-- Forgetting, a region having become a row. -/
theorem weak_push {s : AS} {l : List (Nat × AV)} {h : List (Nat × (Bool × List AV))} {r0 b : Nat} {rows : List (List Int)} {row : List Int} (f0 : Nat → Nat) (q : Nat)
    (hl : HasF s (nmF b f0 (gpush b rows.length q)) l) (hh : HasRF s (nmF b f0 (gpush b rows.length q)) h) (hflat : (h.all fun p => p.2.1) = true) (hk : (r0 :: h.map (·.1)).all (fun r => decide (r < b ∧ f0 r < b)) = true)
    (hpk : (r0 :: h.map (·.1)).all (fun r => decide ((r < pbase ∧ f0 r < pbase) ∨ (pbase ≤ r ∧ f0 r = r))) = true) (hb : b + rows.length + 1 ≤ pbase) (hr : refsT (fun r => (r0 :: h.map (·.1)).contains r) l = true) (hndB : nodupB ((r0 :: h.map (·.1)).map f0) = true)
    (hqb : q < b) (hqn : ((r0 :: h.map (·.1)).map f0).contains q = false)
    {cs : List AV} (h0 : s.hp (f0 r0) = some (false, cs)) (hcs : cs = rowsC b rows ++ [.sl q 1 0 row.length]) (hq : s.hp q = some (true, row.map AV.i))
    (hrow : ∀ j, j < rows.length → s.hp (b + j) = some (true, (rows.getD j []).map AV.i)) : Weak s (stM l h r0 b (rows ++ [row])) := by
  have hlen : (rows ++ [row]).length = rows.length + 1 := by simp
  refine weak_mat f0 (gpush b rows.length q) hl hh hflat hk hpk (fun j hj => .inl ⟨by omega, by unfold gpush; split <;> omega⟩) hr ⟨false, cs, h0, .inl ⟨rfl, ?_⟩⟩ (fun j hj => ?_) hndB (fun j hj r hr => ?_) (fun j j' h1 h2 e => ?_)
  · rw [hcs, rowsC_snoc, renL_append, rowsC_ren _ b b]
    · simp only [renL, renV]
      unfold nmF gpush
      rw [if_neg (by omega), Nat.add_sub_cancel_left, if_neg (by omega)]
    · intro j hj
      unfold nmF gpush
      rw [if_neg (by omega), Nat.add_sub_cancel_left, if_pos hj]
  · unfold gpush
    by_cases hj' : j < rows.length
    · rw [if_pos hj', hrow j hj']
      simp [List.getElem?_append, hj']
    · have : j = rows.length := by omega
      subst this
      rw [if_neg hj', hq]
      simp
  · have := of_decide_eq_true (List.all_eq_true.1 hk r hr)
    unfold gpush
    split
    · omega
    · intro e
      have hm : q ∈ (r0 :: h.map (·.1)).map f0 := List.mem_map.2 ⟨r, hr, e⟩
      have := List.contains_iff_mem.2 hm
      rw [hqn] at this; cases this
  · unfold gpush at e
    split at e <;> split at e <;> omega
theorem hp_put (s : AS) (d : Option Nat) (x : AV) : (s.put d x).hp = s.hp := by cases d <;> rfl
theorem hp_mem_ne {s : AS} {q r : Nat} {c : Bool × List AV} (h : r ≠ q) : (s.mem q c).hp r = s.hp r := by simp [AS.mem, h]
theorem hp_kill_ne {s : AS} {q r : Nat} (h : r ≠ q) : (s.kill q).hp r = (s.hp r).map (killR q) := by simp [AS.kill, h]
end Go.Am
namespace Go.Am
variable [Go.Am.CodeBlk]
variable {P : Program} {own : Bool} {N : Nat} {s : AS} {K : AS → Prop} {d : Option Nat}
def nbase : Nat := 8000000
/-- A matrix asx regions: the outer slice in r0, its rows in b, b + 1, .. -/
def matH (r0 b : Nat) (rows : List (List Int)) : Hp := famH (fun r => if r = r0 then some (false, rowsC b rows) else none) b rows
theorem matH_some {r0 b r : Nat} {rows : List (List Int)} {c : Bool × List AV} (h : matH r0 b rows r = some c) : (r = r0 ∧ c = (false, rowsC b rows)) ∨ ∃ j, j < rows.length ∧ r = b + j ∧ c = (true, (rows.getD j []).map AV.i) := by
  rcases famH_some h with h1 | ⟨_, h1⟩
  · split at h1
    · rename_i e; cases h1; exact .inl ⟨e, rfl⟩
    · cases h1
  · exact .inr h1
theorem matH_outer (r0 b : Nat) (rows : List (List Int)) : matH r0 b rows r0 = some (false, rowsC b rows) := by simp [matH, famH]
theorem matH_row {r0 b : Nat} {rows : List (List Int)} {j : Nat} (h : r0 < b) (hj : j < rows.length) : matH r0 b rows (b + j) = some (true, (rows.getD j []).map AV.i) :=
  famH_row (by have : ¬ b + j = r0 := by omega
               simp [this]) hj
theorem renL_ints (f : Nat → Nat) (l : List Int) : renL f (l.map AV.i) = l.map AV.i := by
  induction l with
  | nil => rfl
  | cons x l ih => simp only [List.map_cons, renL, renV, ih]
theorem ownL_ints (q : Bool) (l : List Int) : ownL q (l.map AV.i) = true := by
  induction l with
  | nil => rfl
  | cons x l ih => simp only [List.map_cons, ownL, ownV, ih, Bool.and_self]
theorem refsL_ints (keep : Nat → Bool) (l : List Int) : refsL keep (l.map AV.i) = true := by
  induction l with
  | nil => rfl
  | cons x l ih => simp only [List.map_cons, refsL, refsV, ih, Bool.and_self]
theorem matH_own {r0 b : Nat} {rows : List (List Int)} (h : r0 < b) (r : Nat) (c : Bool × List AV) (hc : matH r0 b rows r = some c) : ownL false c.2 = true ∧ refsL (fun r => (matH r0 b rows r).isSome) c.2 = true := by
  rcases matH_some hc with ⟨rfl, rfl⟩ | ⟨j, hj, rfl, rfl⟩
  · exact ⟨rowsC_own _ _ _, rowsC_refs _ _ _ fun j hj => by rw [matH_row h hj]; rfl⟩
  · exact ⟨ownL_ints _ _, refsL_ints _ _⟩
/-- The names of a matrix handed out. -/
def gnm (q b : Nat) : Nat → Nat := fun r => if r = nbase then q else b + (r - (nbase + 1))
theorem gnm_outer (q b : Nat) : gnm q b nbase = q := if_pos rfl
theorem gnm_row (q b j : Nat) : gnm q b (nbase + 1 + j) = b + j := by
  unfold gnm
  rw [if_neg (by omega), Nat.add_sub_cancel_left]
theorem gnm_inj {q b : Nat} (hq : q < b) {rows : List (List Int)} {r r' : Nat} (h1 : (matH nbase (nbase + 1) rows r).isSome = true) (h2 : (matH nbase (nbase + 1) rows r').isSome = true) (e : gnm q b r = gnm q b r') : r = r' := by
  obtain ⟨c, hc⟩ := Option.isSome_iff_exists.1 h1
  obtain ⟨c', hc'⟩ := Option.isSome_iff_exists.1 h2
  rcases matH_some hc with ⟨rfl, _⟩ | ⟨j, hj, rfl, _⟩
  · rcases matH_some hc' with ⟨rfl, _⟩ | ⟨j', hj', rfl, _⟩
    · rfl
    · rw [gnm_outer, gnm_row] at e; omega
  · rcases matH_some hc' with ⟨rfl, _⟩ | ⟨j', hj', rfl, _⟩
    · rw [gnm_outer, gnm_row] at e; omega
    · rw [gnm_row, gnm_row] at e; omega
theorem gnm_cells (q b : Nat) (rows : List (List Int)) : renL (gnm q b) (rowsC (nbase + 1) rows) = rowsC b rows := rowsC_ren _ _ _ _ fun j _ => gnm_row q b j
theorem gnm_hp {q b : Nat} {rows : List (List Int)} {hp : Hp} (h0 : hp q = some (false, rowsC b rows)) (hr : ∀ j, j < rows.length → hp (b + j) = some (true, (rows.getD j []).map AV.i)) (r : Nat) (c : Bool × List AV) (hc : matH nbase (nbase + 1) rows r = some c) :
    hp (gnm q b r) = some (renR (gnm q b) c) := by
  rcases matH_some hc with ⟨rfl, rfl⟩ | ⟨j, hj, rfl, rfl⟩
  · rw [gnm_outer, h0]
    simp only [renR]
    rw [gnm_cells]
  · rw [gnm_row, hr j hj]
    simp only [renR]
    rw [renL_ints]
abbrev matO (rows : List (List Int)) : Hp := matH nbase (nbase + 1) rows
theorem static_mat1 (rows : List (List Int)) : Static (fun _ => none) (.sl nbase 1 0 rows.length) (matO rows) :=
  ⟨fun r h => by simp at h, matH_own (by omega), by simp [ownV], by simp [refsV, matO, matH_outer]⟩
theorem static_mat2 (rows : List (List Int)) (x : Value) : Static (fun _ => none) (.tup [.sl nbase 1 0 rows.length, .v x]) (matO rows) :=
  ⟨fun r h => by simp at h, matH_own (by omega), by simp [ownV, ownL], by simp [refsV, refsL, matO, matH_outer]⟩
/-- A matrix is handed out. -/
theorem ret_mat {r0 b : Nat} {rows : List (List Int)} {ts : List Nat} {res : AV} (hr0 : r0 < b) (hpb : r0 < pbase) (hb : b + rows.length ≤ pbase)
    (h1 : resAV s ts = renV (gnm r0 b) res) (h0 : s.hp r0 = some (false, rowsC b rows)) (hrow : ∀ j, j < rows.length → s.hp (b + j) = some (true, (rows.getD j []).map AV.i)) : DoneH ts res (fun _ => none) (matO rows) .ret s := by
  refine ret_doneh (gnm r0 b) h1 (fun r c hc => ⟨_, gnm_hp h0 hrow r c hc, .inl rfl⟩) (fun r hr => by simp at hr) (fun r hr _ => ?_) fun r r' h2 h3 e => gnm_inj hr0 h2 h3 e
  obtain ⟨c, hc⟩ := Option.isSome_iff_exists.1 hr
  rcases matH_some hc with ⟨rfl, _⟩ | ⟨j, hj, rfl, _⟩
  · rw [gnm_outer]; exact hpb
  · rw [gnm_row]; omega
/-- An empty one. -/
theorem ret_mat0 {r0 : Nat} {fl : Bool} {ts : List Nat} {res : AV} (hpb : r0 < pbase) (h1 : resAV s ts = renV (gnm r0 (r0 + 1)) res) (h0 : s.hp r0 = some (fl, [])) : DoneH ts res (fun _ => none) (matO []) .ret s := by
  refine ret_doneh (gnm r0 (r0 + 1)) h1 (fun r c hc => ?_) (fun r hr => by simp at hr) (fun r hr _ => ?_) fun r r' h2 h3 e => gnm_inj (by omega) h2 h3 e
  · rcases matH_some hc with ⟨rfl, rfl⟩ | ⟨j, hj, _⟩
    · exact ⟨_, by rw [gnm_outer]; exact h0, .inr ⟨rfl, rfl⟩⟩
    · simp at hj
  · obtain ⟨c, hc⟩ := Option.isSome_iff_exists.1 hr
    rcases matH_some hc with ⟨rfl, _⟩ | ⟨j, hj, _⟩
    · rw [gnm_outer]; exact hpb
    · simp at hj
/-- A matrix comes in: its outer slice is region q, its rows are b, b + 1, .. -/
def AS.addM (s : AS) (q b : Nat) (rows : List (List Int)) : AS := ⟨s.tm, famH (fun r => if r = q then some (false, rowsC b rows) else s.hp r) b rows⟩
theorem addM_row {s : AS} {q b : Nat} {rows : List (List Int)} {j : Nat} (hq : q < b) (hn : s.hp (b + j) = none) (hj : j < rows.length) : (s.addM q b rows).hp (b + j) = some (true, (rows.getD j []).map AV.i) :=
  famH_row (h := fun r => if r = q then some (false, rowsC b rows) else s.hp r) (by
    show (if b + j = q then some (false, rowsC b rows) else s.hp (b + j)) = none
    rw [if_neg (by omega)]; exact hn) hj
/-- A call that hands out a matrix: its outer slice is taken asx region q, its rows asx b, b + 1, .. -/
theorem m_callM {f : FuncId} {args : List Opd} {asx : List AV} {rows : List (List Int)} {res : AV} (q b : Nat) (hs : SpH P f asx (fun _ => none) res (matO rows)) (hl : Lends s.hp (args.map s.ev) asx) (hor : ownV false res = true) (hqb : q < b) (hqp : q < pbase) (hb : b + rows.length ≤ pbase)
    (hq : s.hp q = none) (hrow : ∀ j, j < rows.length → s.hp (b + j) = none)
    (k : K (AS.put (s.addM q b rows) d (renV (gnm q b) res))) : aop1 P true ⟨d, .call f args, none⟩ s K := by
  refine m_callh (gnm q b) hs (lendsH_none hl) ⟨fun r c h => by simp at h, fun r r' h1 h2 e => gnm_inj hqb h1 h2 e, fun r h => by simp at h, fun r hr _ => ?_, gnm_hp ?_ fun j hj => ?_, fun p hp => ?_, fun r c h => by simp at h, fun r c hc => (matH_own (by omega) r c hc).1, hor⟩ k
  · obtain ⟨c, hc⟩ := Option.isSome_iff_exists.1 hr
    rcases matH_some hc with ⟨rfl, _⟩ | ⟨j, hj, rfl, _⟩
    · rw [gnm_outer]; exact ⟨hq, hqp⟩
    · rw [gnm_row]; exact ⟨hrow j hj, by omega⟩
  · simp [famH]
  · exact famH_row (by have : ¬ b + j = q := by omega
                       simp only [this, if_false]; exact hrow j hj) hj
  · have h1 : p ≠ q := fun e => hp nbase (by rw [matO, matH_outer]; rfl) (by rw [gnm_outer]; exact e.symm)
    unfold famH
    simp only [h1, if_false]
    cases hh : s.hp p with
    | some c => rfl
    | none =>
      simp only
      rw [if_neg]
      rintro ⟨h2, h3⟩
      refine hp (nbase + 1 + (p - b)) ?_ ?_
      · rw [matO, matH_row (by omega) (by omega)]; rfl
      · rw [gnm_row]; omega
/-- A matrix that is read; one of new memory that is read. -/
abbrev roM (rows : List (List Int)) : AV := .ro false 1 (rows.map ints) rows.length
abbrev roF (rows : List (List Int)) : AV := .ro true 1 (rows.map newInts) rows.length
theorem roM_at {rows : List (List Int)} {k : Nat} (h : k < rows.length) : ((rows.map ints).drop k)[0]? = some (ints (rows.getD k [])) := by simp [h]
theorem lend_mat {hp : Hp} {r b : Nat} {rows : List (List Int)} (hr : hp r = some (false, rowsC b rows)) (hrow : ∀ j, j < rows.length → hp (b + j) = some (true, (rows.getD j []).map AV.i)) : Lend hp (.sl r 1 0 rows.length) (roM rows) := by
  intro w0 mu N tm w phi ro v hS h
  simp only [SimV] at h ⊢
  rcases h.2.2 with ⟨h1, _, h3, h4⟩ | ⟨b', o, cap, cur, e, h1, h2, h3, h4, h5, h6, h7⟩
  · have : rows = [] := List.eq_nil_of_length_eq_zero h3
    subst this
    exact .inl ⟨rfl, rfl, none, 0, by simpa using h4, by simp⟩
  · have ho : o = 0 := by
      rcases h4 with h4 | h4
      · exact h4
      · omega
    subst ho
    rcases hS.liv r _ hr with ⟨h8, _⟩ | ⟨b2, cur', e', h8, h9, h10, h11, h12⟩ | ⟨b2, o2, h0, _⟩
    · have : phi r = some b' := h1
      rw [h8] at this; cases this
    case inr.inr => cases h0
    · have h1' : phi r = some b' := h1
      rw [h8] at h1'
      cases h1'
      have h3' : w.heap[b']? = some (.cells cur e (0, 0)) := h3
      rw [h9] at h3'
      cases h3'
      refine .inr ⟨b', 0, cap, cur, e, (0, 0), h2, h9, lt_of_get h9, by simp, h5, by simp, ?_⟩
      simp only [SimR, Bool.false_eq_true, if_false] at h12
      rw [List.drop_zero]
      refine SimL.of_get fun j a hj => ?_
      rw [List.getElem?_map, Option.map_eq_some_iff] at hj
      obtain ⟨l, hl, rfl⟩ := hj
      have hjl := (List.getElem?_eq_some_iff.1 hl).1
      have e1 : rows.getD j [] = l := by rw [List.getD_eq_getElem?_getD, hl]; rfl
      obtain ⟨y, k1, k2⟩ := h12.get (rowsC_get b rows j hjl)
      refine ⟨y, k1, ?_⟩
      rw [e1] at k2
      have hrj := hrow j hjl
      rw [e1] at hrj
      have := lend_sli (hp := hp) (r := b + j) (L := l) hrj rfl w0 mu N tm w phi ro y hS k2
      rw [SimV] at this ⊢
      exact this
theorem ob_ints {G : Prop} {l : List Int} {o : Obj} (h : ((true, l.map AV.i) : Bool × List AV) = (true, [.ob o])) : G := by
  simp only [Prod.mk.injEq, true_and] at h
  cases l with
  | nil => simp at h
  | cons x l => simp at h
/-- A matrix handed out, read. -/
theorem simv_roF {w w' : World} {phi : Nat → Option Nat} {rows : List (List Int)} {v : Value} (h1 : ∀ r b, (matO rows r).isSome = true → phi r = some b → w.heap.size ≤ b) (h2 : Regs (ctxX w w' phi (matO rows)) (matO rows)) (h3 : SimV (.sl nbase 1 0 rows.length) (ctxX w w' phi (matO rows)) v) : SimV (roF rows) (fresh w w') v := by
  simp only [SimV] at h3 ⊢
  rcases h3.2.2 with ⟨k1, _, k3, k4⟩ | ⟨b', o, cap, cur, e, k1, k2, k3, k4, k5, k6, k7⟩
  · have : rows = [] := List.eq_nil_of_length_eq_zero k3
    subst this
    exact .inl ⟨rfl, rfl, none, 0, by simpa using k4, by simp⟩
  · have ho : o = 0 := by
      rcases k4 with k4 | k4
      · exact k4
      · omega
    subst ho
    have hb := h1 nbase b' (by rw [matO, matH_outer]; rfl) k1
    have k3' : w'.heap[b']? = some (.cells cur e (0, 0)) := k3
    refine .inr ⟨b', 0, cap, cur, e, (0, 0), k2, k3', ⟨hb, lt_of_get k3'⟩, by simp, k5, fun _ => ⟨hb, rfl, rfl, k6, by omega⟩, ?_⟩
    rcases h2 nbase _ (matH_outer _ _ _) with ⟨g1, _⟩ | ⟨b2, cur2, e2, g1, g2, g3⟩ | ⟨b2, o2, h0, _⟩
    case inr.inr => cases h0
    · have : phi nbase = some b' := k1
      have g1' : phi nbase = none := g1
      rw [g1'] at this; cases this
    · have g1' : phi nbase = some b2 := g1
      have k1' : phi nbase = some b' := k1
      rw [g1'] at k1'
      cases k1'
      have g2' : w'.heap[b']? = some (.cells cur2 e2 (0, 0)) := g2
      rw [k3'] at g2'
      cases g2'
      simp only [SimR, Bool.false_eq_true, if_false] at g3
      rw [List.drop_zero]
      refine SimL.of_get fun j x hj => ?_
      rw [List.getElem?_map, Option.map_eq_some_iff] at hj
      obtain ⟨l, hl, rfl⟩ := hj
      have hjl := (List.getElem?_eq_some_iff.1 hl).1
      have e1 : rows.getD j [] = l := by rw [List.getD_eq_getElem?_getD, hl]; rfl
      obtain ⟨y, m1, m2⟩ := g3.get (rowsC_get (nbase + 1) rows j hjl)
      refine ⟨y, m1, ?_⟩
      rw [e1] at m2
      simp only [SimV] at m2 ⊢
      rcases m2.2.2 with ⟨n1, _, n3, n4⟩ | ⟨b3, o3, cap3, cur3, e3, n1, n2, n3, n4, n5, n6, n7⟩
      · have : l = [] := List.eq_nil_of_length_eq_zero n3
        subst this
        exact .inl ⟨rfl, rfl, none, 0, by simpa using n4, by simp⟩
      · have ho3 : o3 = 0 := by
          rcases n4 with n4 | n4
          · exact n4
          · omega
        subst ho3
        have hrow := matH_row (r0 := nbase) (b := nbase + 1) (rows := rows) (by omega) hjl
        have hb3 := h1 (nbase + 1 + j) b3 (by rw [matO, hrow]; rfl) n1
        have n3' : w'.heap[b3]? = some (.cells cur3 e3 (0, 0)) := n3
        refine .inr ⟨b3, 0, cap3, cur3, e3, (0, 0), n2, n3', ⟨hb3, lt_of_get n3'⟩, by simp, n5, fun _ => ⟨hb3, rfl, rfl, n6, by omega⟩, ?_⟩
        rcases h2 _ _ hrow with ⟨g4, _⟩ | ⟨b4, cur4, e4, g4, g5, g6⟩ | ⟨b4, o4, h0, _⟩
        case inr.inr => exact ob_ints h0
        · have n1' : phi (nbase + 1 + j) = some b3 := n1
          have g4' : phi (nbase + 1 + j) = none := g4
          rw [g4'] at n1'; cases n1'
        · have g4' : phi (nbase + 1 + j) = some b4 := g4
          have n1' : phi (nbase + 1 + j) = some b3 := n1
          rw [g4'] at n1'
          cases n1'
          have g5' : w'.heap[b3]? = some (.cells cur4 e4 (0, 0)) := g5
          rw [n3'] at g5'
          cases g5'
          simp only [SimR, if_true] at g6
          rw [e1] at g6
          rw [List.drop_zero]
          exact simL_allv (allv_ints l) g6
theorem sp_mat1 {f : FuncId} {asx : List AV} {rows : List (List Int)} (h : SpH P f asx (fun _ => none) (.sl nbase 1 0 rows.length) (matO rows)) : Sp P f asx (roF rows) :=
  spH_sp h fun _ _ _ _ h1 h2 h3 => simv_roF h1 h2 h3
theorem sp_mat2 {f : FuncId} {asx : List AV} {rows : List (List Int)} {x : Value} (h : SpH P f asx (fun _ => none) (.tup [.sl nbase 1 0 rows.length, .v x]) (matO rows)) : Sp P f asx (.tup [roF rows, .v x]) := by
  refine spH_sp h fun w w' phi v h1 h2 h3 => ?_
  rw [SimV] at h3 ⊢
  obtain ⟨a, k1, k2, k3⟩ := h3
  refine ⟨a, k1, k2, ?_⟩
  match hl : a.toList with
  | [] => rw [hl] at k3; simp [SimL] at k3
  | [_] => rw [hl] at k3; simp [SimL] at k3
  | u :: v :: rest =>
    rw [hl] at k3
    rw [SimL, SimL] at k3 ⊢
    exact ⟨simv_roF h1 h2 k3.1, by simpa [SimV] using k3.2.1, by simp [SimL]⟩
end Go.Am
namespace Go.Am
variable [Go.Am.CodeBlk]
variable {P : Program} {own : Bool} {N : Nat} {s : AS} {K : AS → Prop} {d : Option Nat}
/-- A region told otherwise, its block being what it was. -/
theorem weak_recell {s : AS} {r : Nat} {c c' : Bool × List AV} (hr : s.hp r = some c) (hne : c.2 ≠ []) (hno : ∀ o, c ≠ (true, [.ob o]))
    (h : ∀ (w0 : World) (mu : Nat → Option Nat) (N : Nat) (tm : Array Value) (w : World) (phi : Nat → Option Nat) (ro : Nat → Prop) (cur : Array Value), Sim w0 mu N s tm w phi ro → SimR c (ctx w0 w ro phi s) cur.toList → SimR c' (ctx w0 w ro phi s) cur.toList) : Weak s (s.mem r c') := by
  intro w0 mu N a w hS
  obtain ⟨hf, phi, ro, hS⟩ := hS
  rcases hS.liv r c hr with ⟨_, h2, _⟩ | ⟨b, cur, e, h1, h2, h3, h4, h5⟩ | ⟨b, o, h0, _⟩
  · exact absurd h2 hne
  case inr.inr => exact absurd h0 (hno o)
  · exact ⟨hf, phi, ro, hS.write hr h1 h2 h2 rfl (fun _ _ _ => rfl) rfl rfl rfl (Nat.le_refl _) (h w0 mu N a.tmps w phi ro cur hS h5)⟩
/-- Plain cells may be told asx cells that may lead to regions. -/
theorem weak_deep {r : Nat} {cs : List AV} (hr : s.hp r = some (true, cs)) (hne : cs ≠ []) (hpl : cs.all plainV = true) : Weak s (s.mem r (false, cs)) := by
  refine weak_recell hr hne (fun o h => by cases h; simp [plainV] at hpl) fun w0 mu N tm w phi ro cur _ h => ?_
  simp only [SimR, if_true, Bool.false_eq_true, if_false] at h ⊢
  exact simL_allv hpl h
end Go.Am
namespace Go.Am
variable [Go.Am.CodeBlk]
/-- A function value bears its first arguments; what it bears, a callee may read asx it is. -/
def Bears (fl : List AV) : Prop := ∀ hp, ∀ x ∈ fl, Lend hp x x
theorem lends_bears {fl : List AV} (h : Bears fl) (hp : Hp) {xs ys : List AV} (k : Lends hp xs ys) : Lends hp (fl ++ xs) (fl ++ ys) := by
  induction fl with
  | nil => exact k
  | cons a l ih => exact lends_cons (h hp a (by simp)) (ih fun hp x hx => h hp x (by simp [hx]))
theorem lend_fn {hp : Hp} {f : FuncId} {l m : List AV} {k : Nat} (h : Lends hp l m) : Lend hp (.fn f l k) (.fn f m k) := by
  intro w0 mu N tm w phi ro v hS hv
  simp only [SimV] at hv ⊢
  obtain ⟨a, b, h1, h2, h3, h4⟩ := hv
  obtain ⟨h5, h6⟩ := h w0 mu N tm w phi ro (a.toList ++ b.toList) hS h4 (by simpa using h3)
  exact ⟨a, b, h1, h2, by simpa using h6, h5⟩
section
variable {s : AS}
theorem tm_put_ne' {d t : Nat} {x : AV} (h : t ≠ d) : (s.put (some d) x).tm t = s.tm t := by simp [AS.put, h]
theorem tm_put_none {t : Nat} {x : AV} : (s.put none x).tm t = s.tm t := rfl
theorem tm_mem {r t : Nat} {c : Bool × List AV} : (s.mem r c).tm t = s.tm t := rfl
theorem tm_kill {r t : Nat} : (s.kill r).tm t = killV r (s.tm t) := rfl
theorem tm_mv {r q t : Nat} {c : List AV} : (s.mv r q c).tm t = mvV r q (s.tm t) := rfl
theorem tm_st {l : List (Nat × AV)} {h : List (Nat × (Bool × List AV))} {t : Nat} : (st l h).tm t = (look l t).getD .any := rfl
theorem tm_en0 {a : AV} {l : List AV} : (enter0 (a :: l)).tm 0 = a := rfl
theorem tm_en1 {a b : AV} {l : List AV} : (enter0 (a :: b :: l)).tm 1 = b := rfl
theorem tm_en2 {a b c : AV} {l : List AV} : (enter0 (a :: b :: c :: l)).tm 2 = c := rfl
theorem tm_en3 {a b c d : AV} {l : List AV} : (enter0 (a :: b :: c :: d :: l)).tm 3 = d := rfl
theorem tm_en4 {a b c d e : AV} {l : List AV} : (enter0 (a :: b :: c :: d :: e :: l)).tm 4 = e := rfl
end
section
variable {f : FuncId} {fl : List AV} {k r q : Nat}
theorem kill_fn (h : ∀ r, killL r fl = fl) : killV r (.fn f fl k) = .fn f fl k := by simp only [killV, h]
theorem mv_fn (h : ∀ r, killL r fl = fl) : mvV r q (.fn f fl k) = .fn f fl k := by simp only [mvV, killV, h]
end
theorem lends_self {fl : List AV} (h : Bears fl) (hp : Hp) : Lends hp fl fl := by
  have := lends_bears h hp lends_nil
  simpa only [List.append_nil] using this
theorem bears_nil : Bears [] := fun _ _ h => by simp at h
/-- A pointer to memory that nobody writes. -/
theorem lend_rp {hp : Hp} {cs : List AV} (hall : cs.all plainV = true) : Lend hp (.rp cs) (.rp cs) := by
  intro w0 mu N tm w phi ro v hS hv
  simp only [SimV] at hv ⊢
  obtain ⟨b, o, cur, e, fz, h1, h2, h3, h4⟩ := hv
  exact ⟨b, o, cur, e, fz, h1, h2, lt_of_get h2, simL_allv hall h4⟩
theorem bears_rp {cs : List AV} (h : cs.all plainV = true) : Bears [.rp cs] := by
  intro hp x hx
  rw [List.mem_singleton.1 hx]
  exact lend_rp h
/-- A pointer to a region of my own: the callee reads it. -/
theorem lend_pt {hp : Hp} {r off : Nat} {cs : List AV} (hr : hp r = some (true, cs)) (hall : cs.all plainV = true) : Lend hp (.pt r off) (.rp (cs.drop off)) := by
  intro w0 mu N tm w phi ro v hS hv
  simp only [SimV] at hv ⊢
  obtain ⟨_, _, b, h1, h2, cur, e, h3⟩ := hv
  refine ⟨b, off, cur, e, (0, 0), h2, h3, lt_of_get h3, ?_⟩
  rcases hS.liv r _ hr with ⟨k1, _⟩ | ⟨b', cur', e', k1, k2, k3, k4, k5⟩ | ⟨b', o, k0, _⟩
  · have h1' : phi r = some b := h1
    rw [k1] at h1'; cases h1'
  · have h1' : phi r = some b := h1
    rw [k1] at h1'; cases h1'
    have h3' : w.heap[b]? = some (.cells cur e (0, 0)) := h3
    rw [k2] at h3'; cases h3'
    simp only [SimR, if_true] at k5
    exact (simL_allv hall k5).drop off
  · cases k0; simp [plainV] at hall
theorem lend_fnc {hp : Hp} {f : FuncId} : Lend hp (.v (.func (.func f) #[] #[])) (.fn f [] 0) := by
  intro w0 mu N tm w phi ro v hS hv
  simp only [SimV] at hv ⊢
  exact ⟨#[], #[], hv, rfl, rfl, by simp [SimL]⟩
/-- May a function value be asked of a place? It answers asx fb says. -/
structure AsksP (P : Program) (f : FuncId) (fl : List AV) (n : Nat) (fb : Nat → Nat → Bool) : Prop where
  call : Callable P f
  bears : Bears fl
  norefs : ∀ keep, refsL keep fl = true
  nokill : ∀ r, killL r fl = fl
  spec : ∀ i j, i < n → j < n → Sp P f (.agg [.i (i : Nat), .i (j : Nat)] :: fl) (.b (fb i j))
section
variable {P : Program} {own : Bool} {s : AS} {K : AS → Prop}
/-- A slice of two things that lead to regions; it is appended to a region of such. -/
theorem m_bsl2d {x y : Opd} {r : Nat} {z : Value} {v w : AV} (hx : s.ev x = v) (hy : s.ev y = w) (hv : cellOk false v = true) (hw : cellOk false w = true) (k : K (((s.kill r).mem r (killR r (false, [v, w]))).put (some r) (.sl r 1 0 2))) : aop1 P own ⟨some r, .bsl 1 2 [z] [(0, x), (1, y)], none⟩ s K :=
  m_bsl (fl := false) (out := [v, w]) (by subst hx; subst hy; exact .inl ⟨rfl, by simp, hv, .inl ⟨rfl, by simp, hw, rfl⟩⟩) k
theorem m_app2d {x y : Opd} {q r q' n bs : Nat} {cs : List AV} {v w : AV} (hx : s.ev x = .sl r 1 0 n) (hp : r < pbase) (hr : s.hp r = some (false, cs)) (hl : cs.length = n) (hy : s.ev y = .sl q' 1 0 2) (hq : s.hp q' = some (false, [v, w])) (hv : cellOk false v = true) (hw : cellOk false w = true)
    (h1 : n ≤ 4194304) (h2 : bs ≤ 64) (k : K ((((s.kill r).kill q).mem q (killR q (killR r (false, cs ++ [v, w])))).put (some q) (.sl q 1 0 (n + 2)))) : aop1 P own ⟨some q, .app 1 bs x y, none⟩ s K := by
  refine m_app (fl := false) (ys := [v, w]) (m := 2) hx hp hr (by omega) ?_ (by simp [hv, hw]) (by show n + 2 ≤ 9223372036854775807; omega) ?_ ?_
  · rw [hy]
    exact Elems.sl q' 0 2 false [v, w] hq (by simp)
  · have := Nat.mul_le_mul (show n + 2 ≤ 4194306 by omega) h2
    omega
  · exact k
def gpush2 (b m q q2 : Nat) : Nat → Nat := fun j => if j < m then b + j else if j = m then q else q2
/-- Forgetting, two regions having become rows. -/
theorem weak_push2 {s : AS} {l : List (Nat × AV)} {h : List (Nat × (Bool × List AV))} {r0 b : Nat} {rows : List (List Int)} {row row2 : List Int} (f0 : Nat → Nat) (q q2 : Nat)
    (hl : HasF s (nmF b f0 (gpush2 b rows.length q q2)) l) (hh : HasRF s (nmF b f0 (gpush2 b rows.length q q2)) h) (hflat : (h.all fun p => p.2.1) = true) (hk : (r0 :: h.map (·.1)).all (fun r => decide (r < b ∧ f0 r < b)) = true)
    (hpk : (r0 :: h.map (·.1)).all (fun r => decide ((r < pbase ∧ f0 r < pbase) ∨ (pbase ≤ r ∧ f0 r = r))) = true) (hb : b + rows.length + 2 ≤ pbase) (hr : refsT (fun r => (r0 :: h.map (·.1)).contains r) l = true) (hndB : nodupB ((r0 :: h.map (·.1)).map f0) = true)
    (hqb : q < b) (hqn : ((r0 :: h.map (·.1)).map f0).contains q = false) (hqb2 : q2 < b) (hqn2 : ((r0 :: h.map (·.1)).map f0).contains q2 = false) (hqq : q ≠ q2)
    {cs : List AV} (h0 : s.hp (f0 r0) = some (false, cs)) (hcs : cs = rowsC b rows ++ [.sl q 1 0 row.length, .sl q2 1 0 row2.length]) (hq : s.hp q = some (true, row.map AV.i)) (hq2 : s.hp q2 = some (true, row2.map AV.i))
    (hrow : ∀ j, j < rows.length → s.hp (b + j) = some (true, (rows.getD j []).map AV.i)) : Weak s (stM l h r0 b (rows ++ [row] ++ [row2])) := by
  have hlen : (rows ++ [row] ++ [row2]).length = rows.length + 2 := by simp
  have hlen1 : (rows ++ [row]).length = rows.length + 1 := by simp
  refine weak_mat f0 (gpush2 b rows.length q q2) hl hh hflat hk hpk (fun j hj => .inl ⟨by omega, by unfold gpush2; split <;> (try split) <;> omega⟩) hr ⟨false, cs, h0, .inl ⟨rfl, ?_⟩⟩ (fun j hj => ?_) hndB (fun j hj r hr => ?_) (fun j j' h1 h2 e => ?_)
  · rw [hcs, rowsC_snoc, rowsC_snoc, renL_append, renL_append, rowsC_ren _ b b]
    · simp only [renL, renV, hlen1, List.append_assoc, List.cons_append, List.nil_append]
      unfold nmF gpush2
      rw [if_neg (by omega), Nat.add_sub_cancel_left, if_neg (by omega), if_pos rfl, if_neg (by omega), Nat.add_sub_cancel_left, if_neg (by omega), if_neg (by omega)]
    · intro j hj
      unfold nmF gpush2
      rw [if_neg (by omega), Nat.add_sub_cancel_left, if_pos hj]
  · unfold gpush2
    by_cases hj' : j < rows.length
    · rw [if_pos hj', hrow j hj']
      simp [List.getElem?_append, hj']
    · by_cases hj2 : j = rows.length
      · subst hj2
        rw [if_neg hj', if_pos rfl, hq]
        simp
      · have : j = rows.length + 1 := by omega
        subst this
        rw [if_neg hj', if_neg hj2, hq2]
        simp
  · have := of_decide_eq_true (List.all_eq_true.1 hk r hr)
    have hm : f0 r ∈ (r0 :: h.map (·.1)).map f0 := List.mem_map.2 ⟨r, hr, rfl⟩
    unfold gpush2
    split
    · omega
    · split
      · intro e
        rw [e] at hm
        rw [List.contains_iff_mem.2 hm] at hqn; cases hqn
      · intro e
        rw [e] at hm
        rw [List.contains_iff_mem.2 hm] at hqn2; cases hqn2
  · unfold gpush2 at e
    (repeat' split at e) <;> omega
end
/- Boards asx texts. -/
def sgn (b : Bool) : UInt8 := if b then 35 else 46
def rowT (fb : Nat → Nat → Bool) (i k : Nat) : List UInt8 := (List.range k).map fun j => sgn (fb i j)
def bdT (fb : Nat → Nat → Bool) (n : Nat) : Nat → List UInt8
  | 0 => []
  | k + 1 => bdT fb n k ++ (if 0 < k then [47] else []) ++ rowT fb k n
theorem rowT_len (fb : Nat → Nat → Bool) (i k : Nat) : (rowT fb i k).length = k := by simp [rowT]
theorem rowT_snoc (fb : Nat → Nat → Bool) (i k : Nat) : rowT fb i (k + 1) = rowT fb i k ++ [sgn (fb i k)] := by simp [rowT, List.range_succ]
theorem bdT_len (fb : Nat → Nat → Bool) (n k : Nat) : (bdT fb n k).length ≤ k * (n + 1) := by
  induction k with
  | zero => simp [bdT]
  | succ k ih =>
    simp only [bdT, List.length_append, rowT_len]
    have : (if 0 < k then [(47 : UInt8)] else []).length ≤ 1 := by split <;> simp
    rw [Nat.add_mul, Nat.one_mul]
    omega
theorem rowT_congr {f g : Nat → Nat → Bool} {i k n : Nat} (h : ∀ i j, i < n → j < n → f i j = g i j) (hi : i < n) (hk : k ≤ n) : rowT f i k = rowT g i k :=
  List.map_congr_left fun j hj => by rw [h i j hi (by have := List.mem_range.1 hj; omega)]
theorem bdT_congr {f g : Nat → Nat → Bool} {n k : Nat} (h : ∀ i j, i < n → j < n → f i j = g i j) (hk : k ≤ n) : bdT f n k = bdT g n k := by
  induction k with
  | zero => rfl
  | succ k ih => simp only [bdT]; rw [ih (by omega), rowT_congr h (by omega) (Nat.le_refl _)]
theorem getD_memL {α : Type} {l : List α} {d : α} {m : Nat} (h : m < l.length) : l.getD m d ∈ l := by
  have : l.getD m d = l[m] := by simp [h]
  rw [this]
  exact List.getElem_mem h
/-- Is a place in a list? -/
def inB (ps : List (List Int)) (i j : Nat) : Bool := ps.any fun p => decide (p.getD 0 0 = (i : Int)) && decide (p.getD 1 0 = (j : Int))
theorem any_take_snoc {α : Type} (l : List α) (p : α → Bool) (d : α) (m : Nat) (h : m < l.length) : (l.take (m + 1)).any p = ((l.take m).any p || p (l.getD m d)) := by
  rw [take_snoc l m d h, List.any_append]
  simp
theorem byteVs_snoc (bs : List UInt8) (b : UInt8) : byteVs (bs ++ [b]) = byteVs bs ++ [.v (.int .u8 b.toNat)] := by simp [byteVs]
end Go.Am
namespace Go.Am
variable [Go.Am.CodeBlk]
/-- A text cut at slashes, at most k times. -/
def splitNB : Nat → List UInt8 → List (List UInt8)
  | 0, B => [B]
  | k + 1, B => if (47 : UInt8) ∈ B then B.takeWhile (· != 47) :: splitNB k (B.drop ((B.takeWhile (· != 47)).length + 1)) else [B]
/-- A text cut at all slashes. -/
def splitB (B : List UInt8) : List (List UInt8) := splitNB (B.count 47) B
def joinB : List (List UInt8) → List UInt8
  | [] => []
  | r :: rs => r ++ rs.flatMap fun x => 47 :: x
theorem takeWhile_cut {p q : List UInt8} (h : (47 : UInt8) ∉ p) : (p ++ 47 :: q).takeWhile (· != 47) = p := by
  induction p with
  | nil => simp
  | cons a p ih =>
    have h1 : a ≠ 47 := fun e => h (by simp [e])
    simp [h1, ih (fun hh => h (by simp [hh]))]
theorem splitNB_cut {p q : List UInt8} (h : (47 : UInt8) ∉ p) (k : Nat) : splitNB (k + 1) (p ++ 47 :: q) = p :: splitNB k q := by
  rw [splitNB, if_pos (by simp), takeWhile_cut h]
  congr 2
  rw [List.drop_append, List.drop_of_length_le (by omega)]
  simp
theorem splitNB_one {B : List UInt8} (h : (47 : UInt8) ∉ B) (k : Nat) : splitNB k B = [B] := by
  cases k with
  | zero => rfl
  | succ k => rw [splitNB, if_neg h]
theorem cut_at {B : List UInt8} (h : (47 : UInt8) ∈ B) : ∃ p q, (47 : UInt8) ∉ p ∧ B = p ++ 47 :: q := by
  induction B with
  | nil => simp at h
  | cons a B ih =>
    by_cases ha : a = 47
    · exact ⟨[], B, by simp, by simp [ha]⟩
    · have hm : (47 : UInt8) ∈ B := by
        rcases List.mem_cons.1 h with e | e
        · exact absurd e.symm ha
        · exact e
      obtain ⟨p, q, h1, h2⟩ := ih hm
      exact ⟨a :: p, q, by simp [h1]; exact fun e => ha e.symm, by simp [h2]⟩
theorem count_cut {p q : List UInt8} (h : (47 : UInt8) ∉ p) : (p ++ 47 :: q).count 47 = q.count 47 + 1 := by
  rw [List.count_append, List.count_eq_zero.2 h, List.count_cons_self]
  omega
theorem splitB_cut {p q : List UInt8} (h : (47 : UInt8) ∉ p) : splitB (p ++ 47 :: q) = p :: splitB q := by
  unfold splitB
  rw [count_cut h, splitNB_cut h]
theorem splitB_one {B : List UInt8} (h : (47 : UInt8) ∉ B) : splitB B = [B] := splitNB_one h _
theorem splitNB_len : ∀ (k : Nat) (B : List UInt8), (splitNB k B).length = min k (B.count 47) + 1
  | 0, B => by simp [splitNB]
  | k + 1, B => by
    by_cases h : (47 : UInt8) ∈ B
    · obtain ⟨p, q, h1, rfl⟩ := cut_at h
      rw [splitNB_cut h1, List.length_cons, splitNB_len k q, count_cut h1]
      omega
    · rw [splitNB_one h, List.count_eq_zero.2 h]
      simp
theorem splitNB_all : ∀ (k : Nat) (B : List UInt8), B.count 47 ≤ k → splitNB k B = splitB B
  | k, B, hk => by
    by_cases h : (47 : UInt8) ∈ B
    · obtain ⟨p, q, h1, rfl⟩ := cut_at h
      rw [count_cut h1] at hk
      cases k with
      | zero => omega
      | succ k => rw [splitNB_cut h1, splitB_cut h1, splitNB_all k q (by omega)]
    · rw [splitNB_one h, splitB_one h]
theorem splitB_len (B : List UInt8) : (splitB B).length = B.count 47 + 1 := by
  unfold splitB
  rw [splitNB_len]
  omega
theorem splitNB_ne (k : Nat) (B : List UInt8) : splitNB k B ≠ [] := fun h => by
  have := splitNB_len k B
  rw [h] at this
  simp at this
theorem joinB_cons {r : List UInt8} {rs : List (List UInt8)} (h : rs ≠ []) : joinB (r :: rs) = r ++ 47 :: joinB rs := by
  cases rs with
  | nil => exact absurd rfl h
  | cons a l => simp [joinB]
theorem joinB_split : ∀ (k : Nat) (B : List UInt8), joinB (splitNB k B) = B
  | 0, B => by simp [splitNB, joinB]
  | k + 1, B => by
    by_cases h : (47 : UInt8) ∈ B
    · obtain ⟨p, q, h1, rfl⟩ := cut_at h
      rw [splitNB_cut h1, joinB_cons (splitNB_ne k q), joinB_split k q]
    · rw [splitNB_one h]
      simp [joinB]
theorem joinB_snoc (l : List (List UInt8)) (x : List UInt8) : joinB (l ++ [x]) = joinB l ++ (if 0 < l.length then [47] else []) ++ x := by
  cases l with
  | nil => simp [joinB]
  | cons r rs => simp [joinB]
/-- A board that is well told: asx many rows asx there are signs in each, all of them signs. -/
def GoodBd (B : List UInt8) : Prop := B.count 47 ≤ 7 ∧ ∀ r ∈ splitB B, r.length = B.count 47 + 1 ∧ ∀ c ∈ r, c = 46 ∨ c = 35
instance (B : List UInt8) : Decidable (GoodBd B) := inferInstanceAs (Decidable (_ ∧ _))
/-- The side of a board, and what is forbidden. -/
def sdB (B : List UInt8) : Nat := B.count 47 + 1
def fbB (B : List UInt8) (i j : Nat) : Bool := decide (((splitB B).getD i []).getD j 0 = 35)
theorem getD_get {α : Type} {l : List α} {d : α} {j : Nat} (h : j < l.length) : l.getD j d = l[j] := by simp [h]
theorem good_row {B : List UInt8} (h : GoodBd B) {i : Nat} (hi : i < sdB B) : (splitB B).getD i [] = rowT (fbB B) i (sdB B) := by
  have hl := splitB_len B
  have hm : (splitB B).getD i [] ∈ splitB B := getD_memL (by unfold sdB at hi; omega)
  obtain ⟨h1, h2⟩ := h.2 _ hm
  apply List.ext_getElem
  · rw [h1, rowT_len]; rfl
  · intro j hj1 hj2
    have hc := h2 _ (List.getElem_mem hj1)
    have hg : ((splitB B).getD i []).getD j 0 = ((splitB B).getD i [])[j] := getD_get hj1
    simp only [rowT, List.getElem_map, List.getElem_range, fbB, hg]
    rcases hc with hc | hc
    · rw [hc]; rfl
    · rw [hc]; rfl
theorem join_take {B : List UInt8} (h : GoodBd B) : ∀ k, k ≤ sdB B → joinB ((splitB B).take k) = bdT (fbB B) (sdB B) k
  | 0, _ => by simp [joinB, bdT]
  | k + 1, hk => by
    have hl := splitB_len B
    rw [take_snoc (splitB B) k [] (by unfold sdB at hk; omega), joinB_snoc, join_take h k (by omega), good_row h (by omega), List.length_take_of_le (by unfold sdB at hk; omega)]
    rfl
theorem good_text {B : List UInt8} (h : GoodBd B) : B = bdT (fbB B) (sdB B) (sdB B) := by
  have hl := splitB_len B
  have := join_take h (sdB B) (Nat.le_refl _)
  rw [List.take_of_length_le (by unfold sdB; omega)] at this
  rw [← this]
  exact (joinB_split _ B).symm
theorem bdT_len2 (fb : Nat → Nat → Bool) (n : Nat) : ∀ k, (bdT fb n k).length = k * (n + 1) - 1
  | 0 => by simp [bdT]
  | k + 1 => by
    simp only [bdT, List.length_append, rowT_len, bdT_len2 fb n k]
    rcases Nat.eq_zero_or_pos k with h | h
    · subst h; simp
    · rw [if_pos h, Nat.add_mul]
      have : 1 ≤ k * (n + 1) := Nat.mul_pos h (by omega)
      simp
      omega
theorem getD_app_l {α : Type} {a b : List α} {d : α} {i : Nat} (h : i < a.length) : (a ++ b).getD i d = a.getD i d := by
  rw [getD_get (show i < (a ++ b).length by rw [List.length_append]; omega), getD_get h, List.getElem_append_left h]
theorem getD_app_r {α : Type} {a b : List α} {d : α} {i : Nat} (h : a.length ≤ i) : (a ++ b).getD i d = b.getD (i - a.length) d := by
  simp [List.getElem?_append, Nat.not_lt.2 h]
theorem bdT_at (fb : Nat → Nat → Bool) (n : Nat) : ∀ k i j, i < k → j < n → (bdT fb n k).getD (i * (n + 1) + j) 0 = sgn (fb i j)
  | 0, i, j, hi, _ => by omega
  | k + 1, i, j, hi, hj => by
    have hl := bdT_len2 fb n k
    by_cases hik : i < k
    · have h1 : i * (n + 1) + j < (bdT fb n k).length := by
        have : (i + 1) * (n + 1) ≤ k * (n + 1) := Nat.mul_le_mul_right _ hik
        rw [Nat.add_mul] at this
        omega
      simp only [bdT]
      rw [List.append_assoc, getD_app_l h1]
      exact bdT_at fb n k i j hik hj
    · obtain rfl : i = k := by omega
      have hp : (bdT fb n i ++ (if 0 < i then [47] else [])).length = i * (n + 1) := by
        rw [List.length_append, hl]
        rcases Nat.eq_zero_or_pos i with h | h
        · subst h; simp
        · have : 1 ≤ i * (n + 1) := Nat.mul_pos h (by omega)
          rw [if_pos h]; simp; omega
      simp only [bdT]
      rw [getD_app_r (by omega), hp, Nat.add_sub_cancel_left]
      simp [rowT, hj]
theorem good_at {B : List UInt8} (h : GoodBd B) {i j : Nat} (hi : i < sdB B) (hj : j < sdB B) : B.getD (i * (sdB B + 1) + j) 0 = sgn (fbB B i j) := by
  have h1 := bdT_at (fbB B) (sdB B) (sdB B) i j hi hj
  rw [← good_text h] at h1
  exact h1
theorem good_len {B : List UInt8} (h : GoodBd B) : B.length = sdB B * (sdB B + 1) - 1 := by
  have h1 := bdT_len2 (fbB B) (sdB B) (sdB B)
  rw [← good_text h] at h1
  exact h1
theorem good_sd {B : List UInt8} (h : GoodBd B) : 1 ≤ sdB B ∧ sdB B ≤ 8 := ⟨by unfold sdB; omega, by have := h.1; unfold sdB; omega⟩
theorem good_len72 {B : List UInt8} (h : GoodBd B) : B.length ≤ 71 := by
  have h1 := good_len h
  have h2 := good_sd h
  have : sdB B * (sdB B + 1) ≤ 8 * 9 := Nat.mul_le_mul h2.2 (by omega)
  omega
/-- A text of a board is one, with what it was made of. -/
theorem rowT_no (fb : Nat → Nat → Bool) (i k : Nat) : (47 : UInt8) ∉ rowT fb i k := by
  simp only [rowT, List.mem_map, not_exists, not_and]
  intro j _ h
  unfold sgn at h
  split at h <;> cases h
theorem indexByte_cut {p q : List UInt8} (h : (47 : UInt8) ∉ p) : Lib.indexByte (p ++ 47 :: q) 47 = p.length := by
  induction p with
  | nil => simp [Lib.indexByte]
  | cons a p ih =>
    have h1 : (a == 47) = false := by
      rw [beq_eq_false_iff_ne]
      exact fun e => h (by simp [e])
    have h2 := ih (fun hh => h (by simp [hh]))
    rw [List.cons_append, Lib.indexByte, h1, h2]
    have : ((p.length : Int) == -1) = false := by
      rw [beq_eq_false_iff_ne]; omega
    simp [this]
theorem indexByte_none {B : List UInt8} (h : (47 : UInt8) ∉ B) : Lib.indexByte B 47 = -1 := by
  induction B with
  | nil => rfl
  | cons a p ih =>
    have h1 : (a == 47) = false := by
      rw [beq_eq_false_iff_ne]
      exact fun e => h (by simp [e])
    rw [Lib.indexByte, h1, ih (fun hh => h (by simp [hh]))]
    rfl

/- The forbidden places asx a map's entries. -/
def keyP (a b : Int) : Value := .agg #[.int .i64 a, .int .i64 b]
theorem keyP_inj {a b c d : Int} (h : keyP a b = keyP c d) : a = c ∧ b = d := by
  simp only [keyP, Value.agg.injEq, Array.mk.injEq, List.cons.injEq, Value.int.injEq, true_and, and_true] at h
  exact h
def entP (p : Nat × Nat) (born : Nat) : MapEntry := { key := keyP p.1 p.2, val := .bool true, born }
def mkEsL : Nat → List (Nat × Nat) → List MapEntry
  | _, [] => []
  | c, p :: l => entP p c :: mkEsL (c + 1) l
def mkEs (l : List (Nat × Nat)) : Array MapEntry := (mkEsL 0 l).toArray
theorem mkEsL_snoc (l : List (Nat × Nat)) (p : Nat × Nat) : ∀ c, mkEsL c (l ++ [p]) = mkEsL c l ++ [entP p (c + l.length)] := by
  induction l with
  | nil => intro c; simp [mkEsL]
  | cons a l ih => intro c; rw [List.cons_append, mkEsL, mkEsL, ih, List.length_cons, show c + 1 + l.length = c + (l.length + 1) by omega]; rfl
theorem mkEs_push (l : List (Nat × Nat)) (p : Nat × Nat) : (mkEs l).push { key := keyP p.1 p.2, val := .bool true, born := l.length } = mkEs (l ++ [p]) := by
  unfold mkEs
  rw [mkEsL_snoc, Nat.zero_add]
  simp [entP]
theorem mem_mkEsL {l : List (Nat × Nat)} {e : MapEntry} : ∀ {c}, e ∈ mkEsL c l → ∃ p ∈ l, e.key = keyP p.1 p.2 ∧ e.val = .bool true := by
  induction l with
  | nil => intro c h; simp [mkEsL] at h
  | cons a l ih =>
    intro c h
    simp only [mkEsL, List.mem_cons] at h
    rcases h with rfl | h
    · exact ⟨a, by simp, rfl, rfl⟩
    · obtain ⟨p, h1, h2⟩ := ih h
      exact ⟨p, by simp [h1], h2⟩
theorem mem_mkEs {l : List (Nat × Nat)} {e : MapEntry} (h : e ∈ (mkEs l).toList) : ∃ p ∈ l, e.key = keyP p.1 p.2 ∧ e.val = .bool true := mem_mkEsL (c := 0) (by simpa [mkEs] using h)
theorem has_mkEsL {l : List (Nat × Nat)} {p : Nat × Nat} (h : p ∈ l) : ∀ c, ∃ e ∈ mkEsL c l, e.key = keyP p.1 p.2 := by
  induction l with
  | nil => simp at h
  | cons a l ih =>
    intro c
    rcases List.mem_cons.1 h with rfl | h
    · exact ⟨entP p c, by simp [mkEsL], rfl⟩
    · obtain ⟨e, h1, h2⟩ := ih h (c + 1)
      exact ⟨e, by simp [mkEsL, h1], h2⟩
theorem has_mkEs {l : List (Nat × Nat)} {p : Nat × Nat} (h : p ∈ l) : ∃ e ∈ (mkEs l).toList, e.key = keyP p.1 p.2 := by
  obtain ⟨e, h1, h2⟩ := has_mkEsL h 0
  exact ⟨e, by simpa [mkEs] using h1, h2⟩
/-- Is a place, told by any numbers, in a list? -/
def hasP (l : List (Nat × Nat)) (a b : Int) : Bool := l.any fun p => decide ((p.1 : Int) = a) && decide ((p.2 : Int) = b)
/-- The forbidden places of the first rows, and of a row's beginning. -/
def rowP (fb : Nat → Nat → Bool) (i k : Nat) : List (Nat × Nat) := ((List.range k).filter fun j => fb i j).map fun j => (i, j)
def posP (fb : Nat → Nat → Bool) (n : Nat) : Nat → List (Nat × Nat)
  | 0 => []
  | k + 1 => posP fb n k ++ rowP fb k n
theorem rowP_snoc (fb : Nat → Nat → Bool) (i k : Nat) : rowP fb i (k + 1) = rowP fb i k ++ (if fb i k then [(i, k)] else []) := by
  simp only [rowP, List.range_succ, List.filter_append, List.map_append, List.filter_cons, List.filter_nil]
  split <;> simp
theorem mem_rowP {fb : Nat → Nat → Bool} {i k : Nat} {p : Nat × Nat} : p ∈ rowP fb i k ↔ p.1 = i ∧ p.2 < k ∧ fb i p.2 = true := by
  simp only [rowP, List.mem_map, List.mem_filter, List.mem_range]
  constructor
  · rintro ⟨j, ⟨h1, h2⟩, rfl⟩; exact ⟨rfl, h1, h2⟩
  · rintro ⟨h1, h2, h3⟩; exact ⟨p.2, ⟨h2, h3⟩, by rw [← h1]⟩
theorem mem_posP {fb : Nat → Nat → Bool} {n : Nat} {p : Nat × Nat} : ∀ {k}, p ∈ posP fb n k ↔ p.1 < k ∧ p.2 < n ∧ fb p.1 p.2 = true
  | 0 => by simp [posP]
  | k + 1 => by
    simp only [posP, List.mem_append, mem_posP (k := k), mem_rowP]
    constructor
    · rintro (⟨h1, h2, h3⟩ | ⟨h1, h2, h3⟩)
      · exact ⟨by omega, h2, h3⟩
      · exact ⟨by omega, h2, by rw [h1]; exact h3⟩
    · rintro ⟨h1, h2, h3⟩
      by_cases h : p.1 = k
      · exact .inr ⟨h, h2, by rw [← h]; exact h3⟩
      · exact .inl ⟨by omega, h2, h3⟩
theorem hasP_pos (fb : Nat → Nat → Bool) (n : Nat) (a b : Int) : hasP (posP fb n n) a b = (decide (0 ≤ a ∧ a < n ∧ 0 ≤ b ∧ b < n) && fb a.toNat b.toNat) := by
  rw [Bool.eq_iff_iff]
  simp only [hasP, List.any_eq_true, Bool.and_eq_true, decide_eq_true_eq]
  constructor
  · rintro ⟨p, hp, h1, h2⟩
    obtain ⟨h3, h4, h5⟩ := mem_posP.1 hp
    subst h1; subst h2
    exact ⟨⟨by omega, by omega, by omega, by omega⟩, by simpa using h5⟩
  · rintro ⟨⟨h1, h2, h3, h4⟩, h5⟩
    refine ⟨(a.toNat, b.toNat), mem_posP.2 ⟨by show a.toNat < n; omega, by show b.toNat < n; omega, h5⟩, ?_, ?_⟩
    · show ((a.toNat : Nat) : Int) = a; omega
    · show ((b.toNat : Nat) : Int) = b; omega
end Go.Am
namespace Go.Am
variable [Go.Am.CodeBlk]
/-- The sum of a function over the first numbers. -/
def sumN : Nat → (Nat → Nat) → Nat
  | 0, _ => 0
  | k + 1, f => sumN k f + f k
theorem sumN_congr {f g : Nat → Nat} : ∀ {n : Nat}, (∀ c, c < n → f c = g c) → sumN n f = sumN n g
  | 0, _ => rfl
  | n + 1, h => by rw [sumN, sumN, sumN_congr fun c hc => h c (by omega), h n (by omega)]
theorem sumN_add (f g : Nat → Nat) : ∀ n : Nat, sumN n (fun c => f c + g c) = sumN n f + sumN n g
  | 0 => rfl
  | n + 1 => by simp only [sumN]; rw [sumN_add f g n]; omega
theorem sumN_zero : ∀ n : Nat, sumN n (fun _ => 0) = 0
  | 0 => rfl
  | n + 1 => by simp only [sumN]; rw [sumN_zero n]
theorem sumN_comm (h : Nat → Nat → Nat) (m : Nat) : ∀ n : Nat, sumN n (fun a => sumN m (fun b => h a b)) = sumN m (fun b => sumN n (fun a => h a b))
  | 0 => by simp only [sumN]; rw [sumN_zero]
  | n + 1 => by simp only [sumN]; rw [sumN_comm h m n, ← sumN_add]
theorem sumN_le {f g : Nat → Nat} : ∀ {n : Nat}, (∀ c, c < n → f c ≤ g c) → sumN n f ≤ sumN n g
  | 0, _ => Nat.le_refl _
  | n + 1, h => Nat.add_le_add (sumN_le fun c hc => h c (by omega)) (h n (by omega))
theorem sumN_const (c : Nat) : ∀ n : Nat, sumN n (fun _ => c) = n * c
  | 0 => by simp [sumN]
  | n + 1 => by simp only [sumN]; rw [sumN_const c n, Nat.succ_mul]
/-- A column more. -/
def insC (T c : Nat) : Nat := T ||| 1 <<< c
theorem insC_bit (T c k : Nat) : (insC T c).testBit k = (T.testBit k || decide (c = k)) := by
  unfold insC
  rw [Nat.testBit_or, Nat.one_shiftLeft, Nat.testBit_two_pow]
theorem insC_comm (T c d : Nat) : insC (insC T c) d = insC (insC T d) c := by
  apply Nat.eq_of_testBit_eq
  intro k
  simp only [insC_bit, Bool.or_assoc]
  congr 1
  rw [Bool.or_comm]
theorem insC_lt {T c n : Nat} (hT : T < 2 ^ n) (hc : c < n) : insC T c < 2 ^ n := by
  unfold insC
  refine Nat.or_lt_two_pow hT ?_
  rw [Nat.one_shiftLeft]
  exact Nat.pow_lt_pow_right (by omega) hc
/-- What a row's term for one column adds. -/
def addC (row : Nat → Bool) (g : Nat → Nat) (T c : Nat) : Nat := if row c && !T.testBit c then g (insC T c) else 0
/-- What a row makes of a test of sets, by its first columns: no rook, or a rook in one of them. -/
def stepR (n : Nat) (row : Nat → Bool) (g : Nat → Nat) (T : Nat) : Nat := g T + sumN n (addC row g T)
theorem stepR_comm (n : Nat) (r s : Nat → Bool) (g : Nat → Nat) (T : Nat) : stepR n r (stepR n s g) T = stepR n s (stepR n r g) T := by
  have key : ∀ r s : Nat → Bool, stepR n r (stepR n s g) T = g T + sumN n (addC s g T) + sumN n (addC r g T) + sumN n (fun c => sumN n (fun d => if (r c && !T.testBit c) && (s d && !(insC T c).testBit d) then g (insC (insC T c) d) else 0)) := by
    intro r s
    have : ∀ c, addC r (stepR n s g) T c = addC r g T c + sumN n (fun d => if (r c && !T.testBit c) && (s d && !(insC T c).testBit d) then g (insC (insC T c) d) else 0) := by
      intro c
      unfold addC stepR
      cases hb : (r c && !T.testBit c)
      · simp [sumN_zero]
      · simp only [if_true, Bool.true_and]
        rfl
    rw [stepR, sumN_congr fun c _ => this c, sumN_add, stepR]
    omega
  rw [key r s, key s r, sumN_comm]
  have : ∀ b, b < n → ∀ a, a < n → (if (r a && !T.testBit a) && (s b && !(insC T a).testBit b) then g (insC (insC T a) b) else 0) = (if (s b && !T.testBit b) && (r a && !(insC T b).testBit a) then g (insC (insC T b) a) else 0) := by
    intro b _ a _
    rw [insC_comm T a b, insC_bit, insC_bit]
    by_cases hab : a = b
    · subst hab; simp
    · have hba : ¬ b = a := fun e => hab e.symm
      simp only [hab, hba, decide_false, Bool.or_false]
      congr 2
      cases r a <;> cases s b <;> cases T.testBit a <;> cases T.testBit b <;> rfl
  have h2 : sumN n (fun b => sumN n (fun a => if (r a && !T.testBit a) && (s b && !(insC T a).testBit b) then g (insC (insC T a) b) else 0)) = sumN n (fun c => sumN n (fun d => if (s c && !T.testBit c) && (r d && !(insC T c).testBit d) then g (insC (insC T c) d) else 0)) :=
    sumN_congr fun b hb => sumN_congr fun a ha => this b hb a ha
  rw [h2]
  omega
theorem stepR_none {n : Nat} {row : Nat → Bool} (h : ∀ c, c < n → row c = false) (g : Nat → Nat) (T : Nat) : stepR n row g T = g T := by
  rw [stepR, sumN_congr (g := fun _ => 0) fun c hc => by simp [addC, h c hc], sumN_zero]
  rfl
/-- Rows, the first one outermost. -/
def rowsR (fb : Nat → Nat → Bool) (n : Nat) : List Nat → (Nat → Nat) → Nat → Nat
  | [], g => g
  | r :: l, g => stepR n (fb r) (rowsR fb n l g)
theorem rowsR_snoc (fb : Nat → Nat → Bool) (n r : Nat) (g : Nat → Nat) : ∀ l : List Nat, rowsR fb n (l ++ [r]) g = rowsR fb n l (stepR n (fb r) g)
  | [] => rfl
  | a :: l => by simp only [List.cons_append, rowsR]; rw [rowsR_snoc fb n r g l]
theorem rowsR_perm {fb : Nat → Nat → Bool} {n : Nat} {l m : List Nat} (h : l.Perm m) (g : Nat → Nat) : rowsR fb n l g = rowsR fb n m g := by
  induction h with
  | nil => rfl
  | cons a _ ih => simp only [rowsR, ih]
  | swap a b l => funext T; exact stepR_comm n (fb b) (fb a) _ T
  | trans _ _ ih1 ih2 => rw [ih1, ih2]
/-- Rows on which nothing is forbidden don't matter. -/
theorem rowsR_filter {fb : Nat → Nat → Bool} {n : Nat} (p : Nat → Bool) : ∀ (l : List Nat), (∀ r ∈ l, p r = false → ∀ c, c < n → fb r c = false) → ∀ g : Nat → Nat, rowsR fb n (l.filter p) g = rowsR fb n l g
  | [], _, _ => rfl
  | r :: l, h, g => by
    have ih := rowsR_filter p l (fun r hr => h r (by simp [hr])) g
    rw [List.filter_cons]
    cases hp : p r
    · simp only [Bool.false_eq_true, if_false, rowsR]
      rw [ih]
      funext T
      exact (stepR_none (h r (by simp) hp) _ T).symm
    · simp only [if_true, rowsR, ih]
/-- All rows that count were taken, each once, in whatever order. -/
theorem rowsR_any {fb : Nat → Nat → Bool} {n : Nat} {l : List Nat} (hn : l.Nodup) (hl : ∀ r ∈ l, r < n) (hall : ∀ r, r < n → r ∉ l → ∀ c, c < n → fb r c = false) (g : Nat → Nat) : rowsR fb n l g = rowsR fb n (List.range n) g := by
  have hp : l.Perm ((List.range n).filter fun r => decide (r ∈ l)) := by
    refine (List.perm_ext_iff_of_nodup hn (List.nodup_range.filter _)).2 fun a => ?_
    simp only [List.mem_filter, List.mem_range, decide_eq_true_eq]
    exact ⟨fun h => ⟨hl a h, h⟩, fun h => h.2⟩
  rw [rowsR_perm hp]
  exact rowsR_filter _ _ (fun r hr hp c hc => hall r (List.mem_range.1 hr) (by simpa using hp) c hc) g
theorem stepR_le {n : Nat} {row : Nat → Bool} {g : Nat → Nat} {b : Nat} (h : ∀ T, g T ≤ b) (T : Nat) : stepR n row g T ≤ (n + 1) * b := by
  have h1 : sumN n (addC row g T) ≤ n * b := by
    rw [← sumN_const]
    refine sumN_le fun c _ => ?_
    unfold addC
    split
    · exact h _
    · omega
  have := h T
  rw [stepR, Nat.succ_mul]
  omega
theorem rowsR_le {fb : Nat → Nat → Bool} {n : Nat} {g : Nat → Nat} {b : Nat} (h : ∀ T, g T ≤ b) : ∀ (l : List Nat) (T : Nat), rowsR fb n l g T ≤ (n + 1) ^ l.length * b
  | [], T => by simpa [rowsR] using h T
  | r :: l, T => by
    have := stepR_le (n := n) (row := fb r) (rowsR_le (fb := fb) (n := n) h l) T
    rw [List.length_cons, Nat.pow_succ, Nat.mul_comm _ (n + 1), Nat.mul_assoc]
    exact this
/-- How many columns a set has. -/
def pop16 (T : Nat) : Nat := sumN 16 fun k => if T.testBit k then 1 else 0
theorem pop_ins {T c : Nat} (hc : c < 16) (h : T.testBit c = false) : pop16 (insC T c) = pop16 T + 1 := by
  have key : ∀ m, sumN m (fun k => if (insC T c).testBit k then 1 else 0) = sumN m (fun k => if T.testBit k then 1 else 0) + (if c < m then 1 else 0) := by
    intro m
    induction m with
    | zero => simp [sumN]
    | succ m ih =>
      simp only [sumN]
      rw [ih, insC_bit]
      by_cases hm : c = m
      · subst hm; simp [h]
      · by_cases h1 : c < m
        · simp [hm, h1, show c < m + 1 by omega]; omega
        · simp [hm, h1, show ¬ c < m + 1 by omega]
  have := key 16
  unfold pop16
  rw [this, if_pos hc]
/-- In how many ways so many rooks can be put in the last rows, with columns taken. -/
def rkG (fb : Nat → Nat → Bool) (n : Nat) : Nat → Nat → Nat → Nat
  | 0, _, k => if k = 0 then 1 else 0
  | m + 1, S, k => rkG fb n m S k + sumN n fun j => if fb (n - (m + 1)) j && !S.testBit j then (match k with | 0 => 0 | q + 1 => rkG fb n m (insC S j) q) else 0
/-- The last rows. -/
def lastR (n : Nat) : Nat → List Nat
  | 0 => []
  | m + 1 => (n - (m + 1)) :: lastR n m
theorem lastR_range (n : Nat) : ∀ m, m ≤ n → lastR n m = List.range' (n - m) m
  | 0, _ => rfl
  | m + 1, h => by rw [lastR, lastR_range n m (by omega), List.range'_succ, show n - (m + 1) + 1 = n - m by omega]
theorem lastR_all (n : Nat) : lastR n n = List.range n := by rw [lastR_range n n (Nat.le_refl _), Nat.sub_self, List.range_eq_range']
def popIs (q T : Nat) : Nat := if pop16 T = q then 1 else 0
theorem rowsR_small {fb : Nat → Nat → Bool} {n q : Nat} (hn : n ≤ 16) : ∀ (l : List Nat) (S : Nat), q < pop16 S → rowsR fb n l (popIs q) S = 0
  | [], S, h => by simp [rowsR, popIs, show pop16 S ≠ q by omega]
  | r :: l, S, h => by
    rw [rowsR, stepR, rowsR_small hn l S h, sumN_congr (g := fun _ => 0) fun c hc => ?_, sumN_zero]
    unfold addC
    split
    · rename_i hb
      simp only [Bool.and_eq_true, Bool.not_eq_true'] at hb
      exact rowsR_small hn l _ (by rw [pop_ins (by omega) hb.2]; omega)
    · rfl
theorem rkG_rows {fb : Nat → Nat → Bool} {n : Nat} (hn : n ≤ 16) : ∀ (m S k : Nat), rkG fb n m S k = rowsR fb n (lastR n m) (popIs (k + pop16 S)) S
  | 0, S, k => by
    simp only [rkG, lastR, rowsR, popIs]
    by_cases h : k = 0
    · simp [h]
    · rw [if_neg h, if_neg (by omega)]
  | m + 1, S, k => by
    rw [rkG, lastR, rowsR, stepR, ← rkG_rows hn m S k]
    congr 1
    refine sumN_congr fun j hj => ?_
    unfold addC
    split
    · rename_i hb
      simp only [Bool.and_eq_true, Bool.not_eq_true'] at hb
      have hp := pop_ins (show j < 16 by omega) hb.2
      cases k with
      | zero => exact (rowsR_small hn _ _ (by rw [hp]; omega)).symm
      | succ q =>
        show rkG fb n m (insC S j) q = _
        rw [rkG_rows hn m (insC S j) q, hp, show q + (pop16 S + 1) = q + 1 + pop16 S by omega]
    · rfl
theorem rkG_big {fb : Nat → Nat → Bool} {n : Nat} : ∀ (m S k : Nat), m < k → rkG fb n m S k = 0
  | 0, S, k, h => by rw [rkG, if_neg (by omega)]
  | m + 1, S, k, h => by
    rw [rkG, rkG_big m S k (by omega), sumN_congr (g := fun _ => 0) fun j _ => ?_, sumN_zero]
    split
    · cases k with
      | zero => rfl
      | succ q => exact rkG_big m _ q (by omega)
    · rfl
theorem rkG_le {fb : Nat → Nat → Bool} {n : Nat} : ∀ (m S k : Nat), rkG fb n m S k ≤ (n + 1) ^ m
  | 0, S, k => by rw [rkG]; split <;> simp
  | m + 1, S, k => by
    have h1 : sumN n (fun j => if fb (n - (m + 1)) j && !S.testBit j then (match k with | 0 => 0 | q + 1 => rkG fb n m (insC S j) q) else 0) ≤ n * (n + 1) ^ m := by
      rw [← sumN_const]
      refine sumN_le fun j _ => ?_
      split
      · cases k with
        | zero => exact Nat.zero_le _
        | succ q => exact rkG_le m _ q
      · omega
    have := rkG_le (fb := fb) (n := n) m S k
    rw [rkG, Nat.pow_succ, Nat.mul_succ, Nat.mul_comm _ n]
    omega
/-- The numbers of rooks of a board. -/
def rkN (fb : Nat → Nat → Bool) (n k : Nat) : Nat := rkG fb n n 0 k
theorem rkN_any {fb : Nat → Nat → Bool} {n : Nat} (h16 : n ≤ 16) {l : List Nat} (hn : l.Nodup) (hl : ∀ r ∈ l, r < n) (hall : ∀ r, r < n → r ∉ l → ∀ c, c < n → fb r c = false) (k : Nat) :
    rowsR fb n l (popIs k) 0 = rkN fb n k := by
  rw [rowsR_any hn hl hall, rkN, rkG_rows h16, lastR_all, show pop16 0 = 0 from by decide]
  rfl

/- Ways asx a map's entries: set, number, stamp. -/
structure RWay where
  t : Nat
  v : Nat
  b : Nat
def RWay.ent (p : RWay) : MapEntry := { key := .int .u16 (p.t : Nat), val := .int .i64 (p.v : Nat), born := p.b }
def sumW (w : List RWay) (g : RWay → Nat) : Nat := (w.map g).sum
theorem sumW_cons (p : RWay) (w : List RWay) (g : RWay → Nat) : sumW (p :: w) g = g p + sumW w g := by simp [sumW]
theorem sumW_snoc (p : RWay) (w : List RWay) (g : RWay → Nat) : sumW (w ++ [p]) g = sumW w g + g p := by simp [sumW]
theorem sumW_congr {w : List RWay} {g h : RWay → Nat} (he : ∀ p ∈ w, g p = h p) : sumW w g = sumW w h := by
  unfold sumW
  rw [List.map_congr_left he]
theorem sumW_add (w : List RWay) (g h : RWay → Nat) : sumW w (fun p => g p + h p) = sumW w g + sumW w h := by
  induction w with
  | nil => rfl
  | cons p w ih => simp only [sumW_cons]; rw [ih]; omega
theorem sumW_le {w : List RWay} {g : RWay → Nat} {p : RWay} (h : p ∈ w) : g p ≤ sumW w g := by
  induction w with
  | nil => simp at h
  | cons q w ih =>
    rw [sumW_cons]
    rcases List.mem_cons.1 h with rfl | h
    · omega
    · have := ih h; omega
theorem sumW_mono {w : List RWay} {g h : RWay → Nat} (he : ∀ p ∈ w, g p ≤ h p) : sumW w g ≤ sumW w h := by
  induction w with
  | nil => exact Nat.le_refl _
  | cons q w ih => rw [sumW_cons, sumW_cons]; exact Nat.add_le_add (he q (by simp)) (ih fun p hp => he p (by simp [hp]))
/-- Ways asx a map can hold them. -/
structure WaysOk (n ck : Nat) (w : List RWay) : Prop where
  keys : (w.map (·.t)).Nodup
  born : (w.map (·.b)).Nodup
  old : ∀ p ∈ w, p.b < ck
  lt : ∀ p ∈ w, p.t < 2 ^ n
/-- The weighed sum of a test of sets. -/
def wE (w : List RWay) (g : Nat → Nat) : Nat := sumW w fun p => p.v * g p.t
/-- A number more at a set. -/
theorem ways_set {n ck : Nat} {w : List RWay} (h : WaysOk n ck w) {k : Nat} {p : RWay} (hk : w[k]? = some p) (m : Nat) :
    WaysOk n ck (w.set k { p with v := p.v + m }) ∧ ∀ g, wE (w.set k { p with v := p.v + m }) g = wE w g + m * g p.t := by
  have hmap : ∀ (f : RWay → Nat), f { p with v := p.v + m } = f p → (w.set k { p with v := p.v + m }).map f = w.map f := by
    intro f hf
    rw [List.map_set, hf]
    apply List.ext_getElem?
    intro j
    rw [List.getElem?_set]
    split
    · rename_i e
      subst e
      rw [List.length_map]
      have hlt : k < w.length := (List.getElem?_eq_some_iff.1 hk).1
      rw [if_pos hlt, List.getElem?_map, hk]
      rfl
    · rfl
  refine ⟨⟨by rw [hmap _ rfl]; exact h.keys, by rw [hmap _ rfl]; exact h.born, fun q hq => ?_, fun q hq => ?_⟩, fun g => ?_⟩
  · rcases List.mem_or_eq_of_mem_set hq with hq | rfl
    · exact h.old q hq
    · exact h.old p (List.mem_of_getElem? hk)
  · rcases List.mem_or_eq_of_mem_set hq with hq | rfl
    · exact h.lt q hq
    · exact h.lt p (List.mem_of_getElem? hk)
  · have key : ∀ (w : List RWay) (k : Nat), w[k]? = some p → wE (w.set k { p with v := p.v + m }) g = wE w g + m * g p.t := by
      intro w
      induction w with
      | nil => intro k hk; simp at hk
      | cons q w ih =>
        intro k hk
        cases k with
        | zero =>
          simp at hk
          subst hk
          simp only [List.set_cons_zero, wE, sumW_cons]
          rw [Nat.add_mul]; omega
        | succ k =>
          have := ih k (by simpa using hk)
          simp only [List.set_cons_succ, wE, sumW_cons] at this ⊢
          omega
    exact key w k hk
theorem ways_push {n ck : Nat} {w : List RWay} (h : WaysOk n ck w) {T : Nat} (hT : T < 2 ^ n) (hno : ∀ p ∈ w, p.t ≠ T) (m : Nat) :
    WaysOk n (ck + 1) (w ++ [⟨T, m, ck⟩]) ∧ ∀ g, wE (w ++ [⟨T, m, ck⟩]) g = wE w g + m * g T := by
  refine ⟨⟨?_, ?_, fun q hq => ?_, fun q hq => ?_⟩, fun g => by simp only [wE, sumW_snoc]⟩
  · rw [List.map_append, List.nodup_append]
    refine ⟨h.keys, by simp, fun a ha b hb => ?_⟩
    obtain ⟨p, hp, rfl⟩ := List.mem_map.1 ha
    simp at hb
    rw [hb]
    exact hno p hp
  · rw [List.map_append, List.nodup_append]
    refine ⟨h.born, by simp, fun a ha b hb => ?_⟩
    obtain ⟨p, hp, rfl⟩ := List.mem_map.1 ha
    simp at hb
    have := h.old p hp
    omega
  · rcases List.mem_append.1 hq with hq | hq
    · have := h.old q hq; omega
    · simp at hq; subst hq; show ck < ck + 1; omega
  · rcases List.mem_append.1 hq with hq | hq
    · exact h.lt q hq
    · simp at hq; subst hq; exact hT
/-- One entry more is seen. -/
theorem sumW_seen {w : List RWay} (hn : (w.map (·.b)).Nodup) {seen : Array Nat} {p : RWay} (hp : p ∈ w) (hs : seen.contains p.b = false) (g : RWay → Nat) :
    sumW w (fun q => if (seen.push p.b).contains q.b then g q else 0) = sumW w (fun q => if seen.contains q.b then g q else 0) + g p := by
  have hpush : ∀ b, (seen.push p.b).contains b = (seen.contains b || decide (b = p.b)) := by
    intro b
    by_cases e : b = p.b
    · subst e; simp
    · simp [e]
  induction w with
  | nil => simp at hp
  | cons q w ih =>
    simp only [List.map_cons, List.nodup_cons] at hn
    simp only [sumW_cons]
    rcases List.mem_cons.1 hp with rfl | hp
    · have h1 : sumW w (fun r => if (seen.push p.b).contains r.b then g r else 0) = sumW w (fun r => if seen.contains r.b then g r else 0) := by
        refine sumW_congr fun r hr => ?_
        have : r.b ≠ p.b := fun e => hn.1 (List.mem_map.2 ⟨r, hr, e⟩)
        rw [hpush]
        simp [this]
      rw [h1, hpush, hs]
      simp
      omega
    · have hne : q.b ≠ p.b := fun e => hn.1 (List.mem_map.2 ⟨p, hp, e.symm⟩)
      rw [ih hn.2 hp, hpush]
      simp only [hne, decide_false, Bool.or_false]
      omega
theorem sumW_none (w : List RWay) (g : RWay → Nat) : sumW w (fun q => if (#[] : Array Nat).contains q.b then g q else 0) = 0 := by
  induction w with
  | nil => rfl
  | cons q w ih => rw [sumW_cons, ih]; simp
/-- How many entries are still to come. -/
def leftW (w : List RWay) (seen : Array Nat) : Nat := (w.filter fun q => !seen.contains q.b).length
theorem leftW_lt {w : List RWay} {seen : Array Nat} {p : RWay} (hp : p ∈ w) (hs : seen.contains p.b = false) : leftW w (seen.push p.b) < leftW w seen := by
  have hpush : ∀ b, (seen.push p.b).contains b = (seen.contains b || decide (b = p.b)) := by
    intro b
    by_cases e : b = p.b
    · subst e; simp
    · simp [e]
  unfold leftW
  have hsub : ∀ w : List RWay, (w.filter fun q => !(seen.push p.b).contains q.b) = (w.filter fun q => !seen.contains q.b).filter fun q => !decide (q.b = p.b) := by
    intro w
    rw [List.filter_filter]
    refine List.filter_congr fun q _ => ?_
    rw [hpush, Bool.not_or, Bool.and_comm]
  rw [hsub]
  have hm : p ∈ w.filter fun q => !seen.contains q.b := List.mem_filter.2 ⟨hp, by rw [hs]; rfl⟩
  refine List.length_filter_lt_length_iff_exists.2 ⟨p, hm, by simp⟩
end Go.Am
namespace Go.Am
variable [Go.Am.CodeBlk]
theorem sumN_succ' (f : Nat → Nat) : ∀ n : Nat, sumN (n + 1) f = f 0 + sumN n fun k => f (k + 1)
  | 0 => by simp [sumN]
  | n + 1 => by
    rw [sumN, sumN_succ' f n, sumN]
    omega
theorem sumN_mul (a : Nat) (f : Nat → Nat) : ∀ n : Nat, sumN n (fun c => a * f c) = a * sumN n f
  | 0 => rfl
  | n + 1 => by simp only [sumN]; rw [sumN_mul a f n, Nat.mul_add]
/-- Choices. -/
def bi : Nat → Nat → Nat
  | _, 0 => 1
  | 0, _ + 1 => 0
  | n + 1, k + 1 => bi n k + bi n (k + 1)
theorem bi_big : ∀ n k : Nat, n < k → bi n k = 0
  | _, 0, h => absurd h (by omega)
  | 0, _ + 1, _ => rfl
  | n + 1, k + 1, h => by rw [bi, bi_big n k (by omega), bi_big n (k + 1) (by omega)]
theorem bi_self : ∀ n : Nat, bi n n = 1
  | 0 => rfl
  | n + 1 => by rw [bi, bi_self n, bi_big n (n + 1) (by omega)]
def fcN : Nat → Nat
  | 0 => 1
  | n + 1 => (n + 1) * fcN n
/-- The columns that are free. -/
def freeN (n S : Nat) : Nat := sumN n fun c => if S.testBit c then 0 else 1
theorem free_ins {n S d : Nat} (hd : d < n) (h : S.testBit d = false) : freeN n (insC S d) + 1 = freeN n S := by
  have key : ∀ m, sumN m (fun c => if (insC S d).testBit c then 0 else 1) + (if d < m then 1 else 0) = sumN m (fun c => if S.testBit c then 0 else 1) := by
    intro m
    induction m with
    | zero => simp [sumN]
    | succ m ih =>
      simp only [sumN]
      rw [← ih, insC_bit]
      by_cases hm : d = m
      · subst hm; simp [h]
      · by_cases h1 : d < m
        · simp [hm, h1, show d < m + 1 by omega]; omega
        · simp [hm, h1, show ¬ d < m + 1 by omega]
  have := key n
  unfold freeN
  rw [← this, if_pos hd]
theorem free_all (n : Nat) : freeN n 0 = n := by
  unfold freeN
  rw [sumN_congr (g := fun _ => 1) fun c _ => by simp, sumN_const]
  omega
/-- What is summed up over the free columns. -/
def sumF (n S : Nat) (f : Nat → Nat) : Nat := sumN n fun c => if S.testBit c then 0 else f c
theorem sumF_add (n S : Nat) (f g : Nat → Nat) : sumF n S (fun c => f c + g c) = sumF n S f + sumF n S g := by
  unfold sumF
  rw [← sumN_add]
  exact sumN_congr fun c _ => by split <;> rfl
theorem sumF_mul (n S a : Nat) (f : Nat → Nat) : sumF n S (fun c => a * f c) = a * sumF n S f := by
  unfold sumF
  rw [← sumN_mul]
  exact sumN_congr fun c _ => by split <;> simp
theorem sumF_congr {n S : Nat} {f g : Nat → Nat} (h : ∀ c, c < n → S.testBit c = false → f c = g c) : sumF n S f = sumF n S g := by
  unfold sumF
  refine sumN_congr fun c hc => ?_
  cases hb : S.testBit c
  · simp [h c hc hb]
  · simp
theorem sumF_const (n S a : Nat) : sumF n S (fun _ => a) = freeN n S * a := by
  unfold sumF freeN
  rw [Nat.mul_comm, ← sumN_mul]
  exact sumN_congr fun c _ => by split <;> simp
theorem sumF_comm (n S : Nat) (f : Nat → Nat → Nat) : sumF n S (fun c => sumF n (insC S c) (f c)) = sumF n S (fun d => sumF n (insC S d) (fun c => f c d)) := by
  have key : ∀ f : Nat → Nat → Nat, sumF n S (fun c => sumF n (insC S c) (f c)) = sumN n fun c => sumN n fun d => if S.testBit c || (S.testBit d || decide (c = d)) then 0 else f c d := by
    intro f
    unfold sumF
    refine sumN_congr fun c _ => ?_
    cases hb : S.testBit c
    · simp only [Bool.false_or, Bool.false_eq_true, if_false]
      refine sumN_congr fun d _ => ?_
      rw [insC_bit]
    · simp [sumN_zero]
  rw [key, key, sumN_comm]
  refine sumN_congr fun b _ => sumN_congr fun a _ => ?_
  have : (S.testBit a || (S.testBit b || decide (a = b))) = (S.testBit b || (S.testBit a || decide (b = a))) := by
    rw [show decide (a = b) = decide (b = a) from decide_eq_decide.2 eq_comm]
    cases S.testBit a <;> cases S.testBit b <;> rfl
  rw [this]
/-- One rook more, in the row ahead. -/
def onR (fb : Nat → Nat → Bool) (n m S : Nat) (f : Nat → Nat) : Nat := sumF n S fun d => if fb (n - (m + 1)) d then f d else 0
theorem rkG_zero (fb : Nat → Nat → Bool) (n : Nat) : ∀ m S, rkG fb n m S 0 = 1
  | 0, _ => rfl
  | m + 1, S => by
    rw [rkG, rkG_zero fb n m S, sumN_congr (g := fun _ => 0) fun j _ => by split <;> rfl, sumN_zero]
theorem rkG_on (fb : Nat → Nat → Bool) (n m S q : Nat) : rkG fb n (m + 1) S (q + 1) = rkG fb n m S (q + 1) + onR fb n m S fun d => rkG fb n m (insC S d) q := by
  rw [rkG]
  unfold onR sumF
  congr 1
  refine sumN_congr fun j _ => ?_
  show (if (fb (n - (m + 1)) j && !S.testBit j) = true then rkG fb n m (insC S j) q else 0) = (if S.testBit j = true then 0 else if fb (n - (m + 1)) j = true then rkG fb n m (insC S j) q else 0)
  cases fb (n - (m + 1)) j <;> cases S.testBit j <;> rfl
/-- A free column more is taken: each way counts for those that it leaves free. -/
theorem rk_free (fb : Nat → Nat → Bool) (n : Nat) : ∀ m S k, sumF n S (fun c => rkG fb n m (insC S c) k) + k * rkG fb n m S k = freeN n S * rkG fb n m S k
  | m, S, 0 => by
    rw [sumF_congr (g := fun _ => 1) fun c _ _ => rkG_zero fb n m _, sumF_const, rkG_zero]
    omega
  | 0, S, k + 1 => by
    have e : ∀ T, rkG fb n 0 T (k + 1) = 0 := fun T => rfl
    rw [sumF_congr (g := fun _ => 0) fun c _ _ => e _, sumF_const, e]
    omega
  | m + 1, S, q + 1 => by
    have ih1 := rk_free fb n m S (q + 1)
    rw [sumF_congr fun c _ _ => rkG_on fb n m (insC S c) q, sumF_add, rkG_on]
    have e1 : sumF n S (fun c => onR fb n m (insC S c) fun d => rkG fb n m (insC (insC S c) d) q) + (q + 1) * onR fb n m S (fun d => rkG fb n m (insC S d) q) = freeN n S * onR fb n m S fun d => rkG fb n m (insC S d) q := by
      unfold onR
      rw [sumF_comm n S (fun c d => if fb (n - (m + 1)) d then rkG fb n m (insC (insC S c) d) q else 0), ← sumF_mul, ← sumF_mul, ← sumF_add]
      refine sumF_congr fun d hd hb => ?_
      cases hf : fb (n - (m + 1)) d
      · simp only [Bool.false_eq_true, if_false, Nat.mul_zero, Nat.add_zero]
        rw [sumF_const, Nat.mul_zero]
      · simp only [if_true]
        have ih2 := rk_free fb n m (insC S d) q
        have hfr := free_ins hd hb
        rw [sumF_congr (g := fun c => rkG fb n m (insC (insC S d) c) q) fun c _ _ => by rw [insC_comm], ← hfr, Nat.add_mul, Nat.add_mul]
        omega
    rw [Nat.mul_add, Nat.mul_add]
    omega
/-- Exchanges that go on in the last rows, by their hits. -/
def hitW (fb : Nat → Nat → Bool) (n : Nat) : Nat → Nat → Nat → Nat
  | 0, _, k => if k = 0 then 1 else 0
  | m + 1, S, k => sumF n S fun j => if fb (n - (m + 1)) j then (match k with | 0 => 0 | q + 1 => hitW fb n m (insC S j) q) else hitW fb n m (insC S j) k
theorem hitW_big (fb : Nat → Nat → Bool) (n : Nat) : ∀ m S k, m < k → hitW fb n m S k = 0
  | 0, S, k, h => by rw [hitW, if_neg (by omega)]
  | m + 1, S, k, h => by
    rw [hitW, sumF_congr (g := fun _ => 0) fun j _ _ => ?_, sumF_const, Nat.mul_zero]
    split
    · cases k with
      | zero => rfl
      | succ q => exact hitW_big fb n m _ q (by omega)
    · exact hitW_big fb n m _ k (by omega)
/-- The hits, chosen so many of. -/
def chG (fb : Nat → Nat → Bool) (n m S j : Nat) : Nat := sumN (m + 1) fun k => bi k j * hitW fb n m S k
theorem sumN_sumF (n S : Nat) (f : Nat → Nat → Nat) : ∀ u, sumN u (fun k => sumF n S (f k)) = sumF n S fun c => sumN u fun k => f k c
  | 0 => by
    simp only [sumN]
    rw [sumF_const, Nat.mul_zero]
  | u + 1 => by simp only [sumN]; rw [sumN_sumF n S f u, ← sumF_add]
theorem chG_big {fb : Nat → Nat → Bool} {n m S j : Nat} : sumN (m + 2) (fun k => bi k j * hitW fb n m S k) = chG fb n m S j := by
  rw [sumN, hitW_big fb n m S (m + 1) (by omega), Nat.mul_zero]
  rfl
theorem chG_more (fb : Nat → Nat → Bool) (n m S j : Nat) : chG fb n (m + 1) S (j + 1) = sumF n S (fun c => chG fb n m (insC S c) (j + 1)) + onR fb n m S fun c => chG fb n m (insC S c) j := by
  unfold onR
  rw [← sumF_add]
  have e1 : chG fb n (m + 1) S (j + 1) = sumN (m + 2) fun k => sumF n S fun c => bi k (j + 1) * if fb (n - (m + 1)) c then (match k with | 0 => 0 | q + 1 => hitW fb n m (insC S c) q) else hitW fb n m (insC S c) k := by
    unfold chG
    refine sumN_congr fun k _ => ?_
    rw [sumF_mul]
    rfl
  rw [e1, sumN_sumF]
  refine sumF_congr fun c _ _ => ?_
  cases fb (n - (m + 1)) c
  · simp only [Bool.false_eq_true, if_false, Nat.add_zero]
    exact chG_big
  · simp only [if_true]
    rw [sumN_succ']
    have e2 : sumN (m + 1) (fun k => bi (k + 1) (j + 1) * hitW fb n m (insC S c) k) = sumN (m + 1) (fun k => bi k j * hitW fb n m (insC S c) k + bi k (j + 1) * hitW fb n m (insC S c) k) := sumN_congr fun k _ => by rw [bi, Nat.add_mul]
    show bi 0 (j + 1) * 0 + sumN (m + 1) (fun k => bi (k + 1) (j + 1) * hitW fb n m (insC S c) k) = _
    rw [e2, sumN_add]
    unfold chG
    omega
theorem chG_none (fb : Nat → Nat → Bool) (n m S : Nat) : chG fb n (m + 1) S 0 = sumF n S fun c => chG fb n m (insC S c) 0 := by
  have e1 : chG fb n (m + 1) S 0 = sumN (m + 2) fun k => sumF n S fun c => bi k 0 * if fb (n - (m + 1)) c then (match k with | 0 => 0 | q + 1 => hitW fb n m (insC S c) q) else hitW fb n m (insC S c) k := by
    unfold chG
    refine sumN_congr fun k _ => ?_
    rw [sumF_mul]
    rfl
  rw [e1, sumN_sumF]
  refine sumF_congr fun c _ _ => ?_
  cases fb (n - (m + 1)) c
  · simp only [Bool.false_eq_true, if_false]
    exact chG_big
  · simp only [if_true]
    rw [sumN_succ']
    have e2 : sumN (m + 1) (fun k => bi (k + 1) 0 * hitW fb n m (insC S c) k) = sumN (m + 1) (fun k => bi k 0 * hitW fb n m (insC S c) k) := sumN_congr fun k _ => by cases k <;> rfl
    show bi 0 0 * 0 + sumN (m + 1) (fun k => bi (k + 1) 0 * hitW fb n m (insC S c) k) = _
    rw [e2]
    unfold chG
    omega
theorem fc_step {m j : Nat} (h : j ≤ m) : (m + 1 - j) * fcN (m - j) = fcN (m + 1 - j) := by
  rw [show m + 1 - j = m - j + 1 by omega, fcN]
/-- Hits chosen so many of are rooks put, and the other rows put asx one likes. -/
theorem hits_rooks (fb : Nat → Nat → Bool) (n : Nat) : ∀ m S j, freeN n S = m → chG fb n m S j = rkG fb n m S j * fcN (m - j)
  | 0, S, j, _ => by
    show 0 + bi 0 j * hitW fb n 0 S 0 = _
    cases j with
    | zero => rfl
    | succ j =>
      show 0 + 0 * _ = 0 * _
      omega
  | m + 1, S, 0, h => by
    rw [chG_none, sumF_congr (g := fun c => rkG fb n m (insC S c) 0 * fcN m) fun c hc hb => ?_]
    · rw [sumF_congr (g := fun _ => fcN m) fun c _ _ => by rw [rkG_zero, Nat.one_mul], sumF_const, h, rkG_zero, Nat.one_mul]
      rfl
    · have := free_ins hc hb
      exact hits_rooks fb n m (insC S c) 0 (by omega)
  | m + 1, S, j + 1, h => by
    have e1 : sumF n S (fun c => chG fb n m (insC S c) (j + 1)) = fcN (m - (j + 1)) * sumF n S fun c => rkG fb n m (insC S c) (j + 1) := by
      rw [← sumF_mul]
      refine sumF_congr fun c hc hb => ?_
      have := free_ins hc hb
      rw [hits_rooks fb n m (insC S c) (j + 1) (by omega), Nat.mul_comm]
    have e2 : (onR fb n m S fun c => chG fb n m (insC S c) j) = fcN (m - j) * onR fb n m S fun c => rkG fb n m (insC S c) j := by
      unfold onR
      rw [← sumF_mul]
      refine sumF_congr fun c hc hb => ?_
      have := free_ins hc hb
      cases fb (n - (m + 1)) c
      · simp
      · simp only [if_true]
        rw [hits_rooks fb n m (insC S c) j (by omega), Nat.mul_comm]
    have hfree := rk_free fb n m S (j + 1)
    rw [h] at hfree
    rw [chG_more, e1, e2, rkG_on, show m + 1 - (j + 1) = m - j by omega, Nat.add_mul, Nat.mul_comm (fcN (m - j))]
    congr 1
    by_cases hj : j + 1 ≤ m
    · have e3 : sumF n S (fun c => rkG fb n m (insC S c) (j + 1)) = (m - j) * rkG fb n m S (j + 1) := by
        have : (m + 1) * rkG fb n m S (j + 1) = (m - j) * rkG fb n m S (j + 1) + (j + 1) * rkG fb n m S (j + 1) := by
          rw [← Nat.add_mul, show m - j + (j + 1) = m + 1 by omega]
        omega
      have e4 := fc_step hj
      rw [show m + 1 - (j + 1) = m - j by omega] at e4
      rw [e3, ← e4, ← Nat.mul_assoc, Nat.mul_comm (fcN (m - (j + 1))), Nat.mul_comm _ (rkG fb n m S (j + 1))]
    · rw [rkG_big m S (j + 1) (by omega), Nat.zero_mul, sumF_congr (g := fun _ => 0) fun c _ _ => rkG_big m _ (j + 1) (by omega), sumF_const, Nat.mul_zero, Nat.mul_zero]
end Go.Am
namespace Go.Proofs.YtmifianbkpiifaaDoor
variable [Go.Am.CodeBlk]
open Go.Am
def ac3 : ACode := (.seq (.ops [⟨(some 14), (.mov (.c (.bool false))), none⟩]) (.seq (.seq (.ops [⟨(some 89), (.mov (.t 0)), none⟩, ⟨(some 90), (.slen (.t 89)), none⟩, ⟨(some 91), (.bin .gtr (.t 90) (.c (.int .i64 1048576))), none⟩, ⟨(some 92), (.mov (.t 91)), none⟩, ⟨(some 93), (.mov (.t 1)), (some (92, false))⟩, ⟨(some 94), (.slen (.t 93)), (some (92, false))⟩, ⟨(some 95), (.bin .gtr (.t 94) (.c (.int .i64 1048576))), (some (92, false))⟩, ⟨(some 96), (.pick (.t 92) (.c (.bool true)) (.t 95)), none⟩, ⟨(some 97), (.mov (.t 96)), none⟩, ⟨(some 98), (.mov (.t 2)), (some (97, false))⟩, ⟨(some 99), (.slen (.t 98)), (some (97, false))⟩, ⟨(some 100), (.bin .gtr (.t 99) (.c (.int .i64 1048576))), (some (97, false))⟩, ⟨(some 101), (.pick (.t 97) (.c (.bool true)) (.t 100)), none⟩, ⟨(some 102), (.mov (.t 101)), none⟩, ⟨(some 103), (.mov (.t 4)), (some (102, false))⟩, ⟨(some 104), (.slen (.t 103)), (some (102, false))⟩, ⟨(some 105), (.bin .gtr (.t 104) (.c (.int .i64 1048576))), (some (102, false))⟩, ⟨(some 106), (.pick (.t 102) (.c (.bool true)) (.t 105)), none⟩]) (.cond (.t 106) (.seq (.ops [⟨(some 14), (.mov (.c (.bool true))), none⟩]) .ret) .skip)) (.seq (.ops [⟨(some 108), (.mov (.t 0)), none⟩, ⟨(some 109), (.call 4 [(.t 108)]), none⟩, ⟨(some 107), (.mov (.t 109)), none⟩, ⟨(some 110), (.ext (.t 107) 0), none⟩, ⟨(some 111), (.ext (.t 107) 1), none⟩, ⟨(some 15), (.mov (.t 110)), none⟩, ⟨(some 16), (.mov (.t 111)), none⟩]) (.seq (.ops [⟨(some 113), (.mov (.t 0)), none⟩, ⟨(some 114), (.call 5 [(.t 113)]), none⟩, ⟨(some 112), (.mov (.t 114)), none⟩, ⟨(some 115), (.ext (.t 112) 0), none⟩, ⟨(some 116), (.ext (.t 112) 1), none⟩, ⟨(some 17), (.mov (.t 115)), none⟩, ⟨(some 18), (.mov (.t 116)), none⟩]) (.seq (.ops [⟨(some 118), (.mov (.t 0)), none⟩, ⟨(some 119), (.call 6 [(.t 118)]), none⟩, ⟨(some 117), (.mov (.t 119)), none⟩, ⟨(some 120), (.ext (.t 117) 0), none⟩, ⟨(some 121), (.ext (.t 117) 1), none⟩, ⟨(some 19), (.mov (.t 120)), none⟩, ⟨(some 20), (.mov (.t 121)), none⟩]) (.seq (.ops [⟨(some 123), (.mov (.t 0)), none⟩, ⟨(some 124), (.call 7 [(.t 123)]), none⟩, ⟨(some 122), (.mov (.t 124)), none⟩, ⟨(some 125), (.ext (.t 122) 0), none⟩, ⟨(some 126), (.ext (.t 122) 1), none⟩, ⟨(some 21), (.mov (.t 125)), none⟩, ⟨(some 22), (.mov (.t 126)), none⟩]) (.seq (.ops [⟨(some 128), (.mov (.t 0)), none⟩, ⟨(some 129), (.call 8 [(.t 128)]), none⟩, ⟨(some 127), (.mov (.t 129)), none⟩, ⟨(some 130), (.ext (.t 127) 0), none⟩, ⟨(some 131), (.ext (.t 127) 1), none⟩, ⟨(some 23), (.mov (.t 130)), none⟩, ⟨(some 24), (.mov (.t 131)), none⟩]) (.seq (.ops [⟨(some 133), (.mov (.t 0)), none⟩, ⟨(some 134), (.call 9 [(.t 133)]), none⟩, ⟨(some 132), (.mov (.t 134)), none⟩, ⟨(some 135), (.ext (.t 132) 0), none⟩, ⟨(some 136), (.ext (.t 132) 1), none⟩, ⟨(some 25), (.mov (.t 135)), none⟩, ⟨(some 26), (.mov (.t 136)), none⟩]) (.seq (.seq (.ops [⟨(some 137), (.mov (.t 16)), none⟩, ⟨(some 138), (.mov (.t 18)), none⟩, ⟨(some 139), (.beq true (.t 137) (.t 138)), none⟩, ⟨(some 140), (.mov (.t 139)), none⟩, ⟨(some 141), (.mov (.t 15)), (some (140, false))⟩, ⟨(some 142), (.mov (.t 17)), (some (140, false))⟩, ⟨(some 143), (.bin .neq (.t 141) (.t 142)), (some (140, false))⟩, ⟨(some 144), (.pick (.t 140) (.c (.bool true)) (.t 143)), none⟩, ⟨(some 145), (.mov (.t 144)), none⟩, ⟨(some 146), (.mov (.t 20)), (some (145, false))⟩, ⟨(some 147), (.mov (.t 22)), (some (145, false))⟩, ⟨(some 148), (.beq true (.t 146) (.t 147)), (some (145, false))⟩, ⟨(some 149), (.pick (.t 145) (.c (.bool true)) (.t 148)), none⟩, ⟨(some 150), (.mov (.t 149)), none⟩, ⟨(some 151), (.mov (.t 19)), (some (150, false))⟩, ⟨(some 152), (.mov (.t 21)), (some (150, false))⟩, ⟨(some 153), (.bin .neq (.t 151) (.t 152)), (some (150, false))⟩, ⟨(some 154), (.pick (.t 150) (.c (.bool true)) (.t 153)), none⟩, ⟨(some 155), (.mov (.t 154)), none⟩, ⟨(some 156), (.mov (.t 24)), (some (155, false))⟩, ⟨(some 157), (.mov (.t 26)), (some (155, false))⟩, ⟨(some 158), (.beq true (.t 156) (.t 157)), (some (155, false))⟩, ⟨(some 159), (.pick (.t 155) (.c (.bool true)) (.t 158)), none⟩, ⟨(some 160), (.mov (.t 159)), none⟩, ⟨(some 161), (.mov (.t 23)), (some (160, false))⟩, ⟨(some 162), (.mov (.t 25)), (some (160, false))⟩, ⟨(some 163), (.bin .neq (.t 161) (.t 162)), (some (160, false))⟩, ⟨(some 164), (.pick (.t 160) (.c (.bool true)) (.t 163)), none⟩, ⟨(some 165), (.mov (.t 164)), none⟩, ⟨(some 166), (.mov (.t 16)), (some (165, false))⟩, ⟨(some 167), (.mov (.t 0)), (some (165, false))⟩, ⟨(some 168), (.call 10 [(.t 167)]), (some (165, false))⟩, ⟨(some 169), (.beq true (.t 166) (.t 168)), (some (165, false))⟩, ⟨(some 170), (.pick (.t 165) (.c (.bool true)) (.t 169)), none⟩, ⟨(some 171), (.mov (.t 170)), none⟩, ⟨(some 172), (.mov (.t 20)), (some (171, false))⟩, ⟨(some 173), (.mov (.t 16)), (some (171, false))⟩, ⟨(some 174), (.beq true (.t 172) (.t 173)), (some (171, false))⟩, ⟨(some 175), (.pick (.t 171) (.c (.bool true)) (.t 174)), none⟩, ⟨(some 176), (.mov (.t 175)), none⟩, ⟨(some 177), (.mov (.t 24)), (some (176, false))⟩, ⟨(some 178), (.mov (.t 16)), (some (176, false))⟩, ⟨(some 179), (.beq true (.t 177) (.t 178)), (some (176, false))⟩, ⟨(some 180), (.pick (.t 176) (.c (.bool true)) (.t 179)), none⟩]) (.cond (.t 180) (.seq (.ops [⟨(some 14), (.mov (.c (.bool false))), none⟩]) .ret) .skip)) (.seq (.seq (.ops [⟨(some 181), (.mov (.t 16)), none⟩]) (.cond (.t 181) (.seq (.ops [⟨(some 183), (.mov (.t 15)), none⟩, ⟨(some 184), (.call 4 [(.t 183)]), none⟩, ⟨(some 182), (.mov (.t 184)), none⟩, ⟨(some 185), (.ext (.t 182) 0), none⟩, ⟨(some 186), (.ext (.t 182) 1), none⟩, ⟨(some 27), (.mov (.t 185)), none⟩, ⟨(some 28), (.mov (.t 186)), none⟩]) (.seq (.ops [⟨(some 188), (.mov (.t 19)), none⟩, ⟨(some 189), (.call 6 [(.t 188)]), none⟩, ⟨(some 187), (.mov (.t 189)), none⟩, ⟨(some 190), (.ext (.t 187) 0), none⟩, ⟨(some 191), (.ext (.t 187) 1), none⟩, ⟨(some 29), (.mov (.t 190)), none⟩, ⟨(some 30), (.mov (.t 191)), none⟩]) (.seq (.ops [⟨(some 193), (.mov (.t 0)), none⟩, ⟨(some 194), (.call 11 [(.t 193)]), none⟩, ⟨(some 192), (.mov (.t 194)), none⟩, ⟨(some 195), (.ext (.t 192) 0), none⟩, ⟨(some 196), (.ext (.t 192) 1), none⟩, ⟨(some 31), (.mov (.t 195)), none⟩, ⟨(some 32), (.mov (.t 196)), none⟩]) (.seq (.ops [⟨(some 198), (.mov (.t 15)), none⟩, ⟨(some 199), (.call 11 [(.t 198)]), none⟩, ⟨(some 197), (.mov (.t 199)), none⟩, ⟨(some 200), (.ext (.t 197) 0), none⟩, ⟨(some 201), (.ext (.t 197) 1), none⟩, ⟨(some 33), (.mov (.t 200)), none⟩, ⟨(some 34), (.mov (.t 201)), none⟩]) (.seq (.ops [⟨(some 203), (.mov (.t 0)), none⟩, ⟨(some 204), (.call 12 [(.t 203)]), none⟩, ⟨(some 202), (.mov (.t 204)), none⟩, ⟨(some 205), (.ext (.t 202) 0), none⟩, ⟨(some 206), (.ext (.t 202) 1), none⟩, ⟨(some 35), (.mov (.t 205)), none⟩, ⟨(some 36), (.mov (.t 206)), none⟩]) (.seq (.ops [⟨(some 208), (.mov (.t 19)), none⟩, ⟨(some 209), (.call 12 [(.t 208)]), none⟩, ⟨(some 207), (.mov (.t 209)), none⟩, ⟨(some 210), (.ext (.t 207) 0), none⟩, ⟨(some 211), (.ext (.t 207) 1), none⟩, ⟨(some 37), (.mov (.t 210)), none⟩, ⟨(some 38), (.mov (.t 211)), none⟩]) (.seq (.ops [⟨(some 213), (.mov (.t 0)), none⟩, ⟨(some 214), (.call 13 [(.t 213)]), none⟩, ⟨(some 212), (.mov (.t 214)), none⟩, ⟨(some 215), (.ext (.t 212) 0), none⟩, ⟨(some 216), (.ext (.t 212) 1), none⟩, ⟨(some 39), (.mov (.t 215)), none⟩, ⟨(some 40), (.mov (.t 216)), none⟩]) (.seq (.ops [⟨(some 218), (.mov (.t 19)), none⟩, ⟨(some 219), (.call 13 [(.t 218)]), none⟩, ⟨(some 217), (.mov (.t 219)), none⟩, ⟨(some 220), (.ext (.t 217) 0), none⟩, ⟨(some 221), (.ext (.t 217) 1), none⟩, ⟨(some 41), (.mov (.t 220)), none⟩, ⟨(some 42), (.mov (.t 221)), none⟩]) (.seq (.seq (.ops [⟨(some 222), (.mov (.t 28)), none⟩, ⟨(some 223), (.not (.t 222)), none⟩, ⟨(some 224), (.mov (.t 223)), none⟩, ⟨(some 225), (.mov (.t 27)), (some (224, false))⟩, ⟨(some 226), (.mov (.t 0)), (some (224, false))⟩, ⟨(some 227), (.bin .neq (.t 225) (.t 226)), (some (224, false))⟩, ⟨(some 228), (.pick (.t 224) (.c (.bool true)) (.t 227)), none⟩, ⟨(some 229), (.mov (.t 228)), none⟩, ⟨(some 230), (.mov (.t 30)), (some (229, false))⟩, ⟨(some 231), (.not (.t 230)), (some (229, false))⟩, ⟨(some 232), (.pick (.t 229) (.c (.bool true)) (.t 231)), none⟩, ⟨(some 233), (.mov (.t 232)), none⟩, ⟨(some 234), (.mov (.t 29)), (some (233, false))⟩, ⟨(some 235), (.mov (.t 0)), (some (233, false))⟩, ⟨(some 236), (.bin .neq (.t 234) (.t 235)), (some (233, false))⟩, ⟨(some 237), (.pick (.t 233) (.c (.bool true)) (.t 236)), none⟩, ⟨(some 238), (.mov (.t 237)), none⟩, ⟨(some 239), (.mov (.t 32)), (some (238, false))⟩, ⟨(some 240), (.not (.t 239)), (some (238, false))⟩, ⟨(some 241), (.pick (.t 238) (.c (.bool true)) (.t 240)), none⟩, ⟨(some 242), (.mov (.t 241)), none⟩, ⟨(some 243), (.mov (.t 34)), (some (242, false))⟩, ⟨(some 244), (.not (.t 243)), (some (242, false))⟩, ⟨(some 245), (.pick (.t 242) (.c (.bool true)) (.t 244)), none⟩, ⟨(some 246), (.mov (.t 245)), none⟩, ⟨(some 247), (.mov (.t 31)), (some (246, false))⟩, ⟨(some 248), (.mov (.t 33)), (some (246, false))⟩, ⟨(some 249), (.call 14 [(.t 247), (.t 248)]), (some (246, false))⟩, ⟨(some 250), (.not (.t 249)), (some (246, false))⟩, ⟨(some 251), (.pick (.t 246) (.c (.bool true)) (.t 250)), none⟩, ⟨(some 252), (.mov (.t 251)), none⟩, ⟨(some 253), (.mov (.t 36)), (some (252, false))⟩, ⟨(some 254), (.not (.t 253)), (some (252, false))⟩, ⟨(some 255), (.pick (.t 252) (.c (.bool true)) (.t 254)), none⟩, ⟨(some 256), (.mov (.t 255)), none⟩, ⟨(some 257), (.mov (.t 38)), (some (256, false))⟩, ⟨(some 258), (.not (.t 257)), (some (256, false))⟩, ⟨(some 259), (.pick (.t 256) (.c (.bool true)) (.t 258)), none⟩, ⟨(some 260), (.mov (.t 259)), none⟩, ⟨(some 261), (.mov (.t 40)), (some (260, false))⟩, ⟨(some 262), (.not (.t 261)), (some (260, false))⟩, ⟨(some 263), (.pick (.t 260) (.c (.bool true)) (.t 262)), none⟩, ⟨(some 264), (.mov (.t 263)), none⟩, ⟨(some 265), (.mov (.t 42)), (some (264, false))⟩, ⟨(some 266), (.not (.t 265)), (some (264, false))⟩, ⟨(some 267), (.pick (.t 264) (.c (.bool true)) (.t 266)), none⟩, ⟨(some 268), (.mov (.t 267)), none⟩, ⟨(some 269), (.mov (.t 39)), (some (268, false))⟩, ⟨(some 270), (.len (.t 269)), (some (268, false))⟩, ⟨(some 271), (.mov (.t 41)), (some (268, false))⟩, ⟨(some 272), (.len (.t 271)), (some (268, false))⟩, ⟨(some 273), (.bin .add (.t 270) (.t 272)), (some (268, false))⟩, ⟨(some 274), (.mov (.t 23)), (some (268, false))⟩, ⟨(some 275), (.mov (.t 23)), (some (268, false))⟩, ⟨(some 276), (.bin .mul (.t 274) (.t 275)), (some (268, false))⟩, ⟨(some 277), (.bin .neq (.t 273) (.t 276)), (some (268, false))⟩, ⟨(some 278), (.pick (.t 268) (.c (.bool true)) (.t 277)), none⟩]) (.cond (.t 278) (.seq (.ops [⟨(some 14), (.mov (.c (.bool false))), none⟩]) .ret) .skip)) (.seq (.ops [⟨(some 279), (.mov (.t 35)), none⟩, ⟨(some 280), (.len (.t 279)), none⟩, ⟨(some 281), (.mov (.c (.int .i64 0))), none⟩]) (.block 0 (.loop (.seq (.ops [⟨(some 282), (.bin .lss (.t 281) (.t 280)), none⟩]) (.seq (.cond (.t 282) .skip (.exit 0)) (.seq (.block 1 (.seq (.ops [⟨(some 283), (.mov (.t 281)), none⟩, ⟨(some 43), (.mov (.t 283)), none⟩]) (.seq (.tree (.take ⟨(some 284), (.mov (.t 35)), none⟩ (.take ⟨(some 285), (.mov (.t 43)), none⟩ (.take ⟨(some 286), (.idx 1 (.t 284) (.t 285)), none⟩ (.take ⟨(some 287), (.ld none (.t 286)), none⟩ (.take ⟨(some 288), (.mov (.t 37)), none⟩ (.take ⟨(some 289), (.mov (.t 23)), none⟩ (.take ⟨(some 290), (.mov (.t 43)), none⟩ (.take ⟨(some 291), (.bin .sub (.t 289) (.t 290)), none⟩ (.take ⟨(some 292), (.idx 1 (.t 288) (.t 291)), none⟩ (.take ⟨(some 293), (.ld none (.t 292)), none⟩ (.take ⟨(some 294), (.bin .neq (.t 287) (.t 293)), none⟩ .done)))))))))))) (.cond (.t 294) (.seq (.ops [⟨(some 14), (.mov (.c (.bool false))), none⟩]) .ret) .skip)))) (.ops [⟨(some 295), (.bin .add (.t 281) (.c (.int .i64 1))), none⟩, ⟨(some 281), (.mov (.t 295)), none⟩])))))))))))))))) .skip)) (.seq (.ops [⟨(some 297), (.mov (.t 1)), none⟩, ⟨(some 298), (.mov (.t 2)), none⟩, ⟨(some 299), (.call 15 [(.t 297), (.t 298)]), none⟩, ⟨(some 296), (.mov (.t 299)), none⟩, ⟨(some 300), (.ext (.t 296) 0), none⟩, ⟨(some 301), (.ext (.t 296) 1), none⟩, ⟨(some 44), (.mov (.t 300)), none⟩, ⟨(some 45), (.mov (.t 301)), none⟩]) (.seq (.ops [⟨(some 303), (.mov (.t 1)), none⟩, ⟨(some 304), (.mov (.t 2)), none⟩, ⟨(some 305), (.call 16 [(.t 303), (.t 304)]), none⟩, ⟨(some 302), (.mov (.t 305)), none⟩, ⟨(some 306), (.ext (.t 302) 0), none⟩, ⟨(some 307), (.ext (.t 302) 1), none⟩, ⟨(some 46), (.mov (.t 306)), none⟩, ⟨(some 47), (.mov (.t 307)), none⟩]) (.seq (.ops [⟨(some 309), (.mov (.t 3)), none⟩, ⟨(some 310), (.call 17 [(.t 309)]), none⟩, ⟨(some 308), (.mov (.t 310)), none⟩, ⟨(some 311), (.ext (.t 308) 0), none⟩, ⟨(some 312), (.ext (.t 308) 1), none⟩, ⟨(some 48), (.mov (.t 311)), none⟩, ⟨(some 49), (.mov (.t 312)), none⟩]) (.seq (.ops [⟨(some 314), (.mov (.t 3)), none⟩, ⟨(some 315), (.call 18 [(.t 314)]), none⟩, ⟨(some 313), (.mov (.t 315)), none⟩, ⟨(some 316), (.ext (.t 313) 0), none⟩, ⟨(some 317), (.ext (.t 313) 1), none⟩, ⟨(some 50), (.mov (.t 316)), none⟩, ⟨(some 51), (.mov (.t 317)), none⟩]) (.seq (.ops [⟨(some 319), (.mov (.t 3)), none⟩, ⟨(some 320), (.call 19 [(.t 319)]), none⟩, ⟨(some 318), (.mov (.t 320)), none⟩, ⟨(some 321), (.ext (.t 318) 0), none⟩, ⟨(some 322), (.ext (.t 318) 1), none⟩, ⟨(some 52), (.mov (.t 321)), none⟩, ⟨(some 53), (.mov (.t 322)), none⟩]) (.seq (.ops [⟨(some 324), (.mov (.t 3)), none⟩, ⟨(some 325), (.call 20 [(.t 324)]), none⟩, ⟨(some 323), (.mov (.t 325)), none⟩, ⟨(some 326), (.ext (.t 323) 0), none⟩, ⟨(some 327), (.ext (.t 323) 1), none⟩, ⟨(some 54), (.mov (.t 326)), none⟩, ⟨(some 55), (.mov (.t 327)), none⟩]) (.seq (.ops [⟨(some 329), (.mov (.t 4)), none⟩, ⟨(some 330), (.mov (.t 5)), none⟩, ⟨(some 331), (.mov (.t 6)), none⟩, ⟨(some 332), (.call 21 [(.t 329), (.t 330), (.t 331)]), none⟩, ⟨(some 328), (.mov (.t 332)), none⟩, ⟨(some 333), (.ext (.t 328) 0), none⟩, ⟨(some 334), (.ext (.t 328) 1), none⟩, ⟨(some 56), (.mov (.t 333)), none⟩, ⟨(some 57), (.mov (.t 334)), none⟩]) (.seq (.ops [⟨(some 336), (.mov (.t 4)), none⟩, ⟨(some 337), (.mov (.t 5)), none⟩, ⟨(some 338), (.mov (.t 6)), none⟩, ⟨(some 339), (.call 22 [(.t 336), (.t 337), (.t 338)]), none⟩, ⟨(some 335), (.mov (.t 339)), none⟩, ⟨(some 340), (.ext (.t 335) 0), none⟩, ⟨(some 341), (.ext (.t 335) 1), none⟩, ⟨(some 58), (.mov (.t 340)), none⟩, ⟨(some 59), (.mov (.t 341)), none⟩]) (.seq (.ops [⟨(some 343), (.mov (.t 4)), none⟩, ⟨(some 344), (.mov (.t 5)), none⟩, ⟨(some 345), (.mov (.t 6)), none⟩, ⟨(some 346), (.call 23 [(.t 343), (.t 344), (.t 345)]), none⟩, ⟨(some 342), (.mov (.t 346)), none⟩, ⟨(some 347), (.ext (.t 342) 0), none⟩, ⟨(some 348), (.ext (.t 342) 1), none⟩, ⟨(some 60), (.mov (.t 347)), none⟩, ⟨(some 61), (.mov (.t 348)), none⟩]) (.seq (.ops [⟨(some 350), (.mov (.t 4)), none⟩, ⟨(some 351), (.mov (.t 5)), none⟩, ⟨(some 352), (.mov (.t 6)), none⟩, ⟨(some 353), (.call 24 [(.t 350), (.t 351), (.t 352)]), none⟩, ⟨(some 349), (.mov (.t 353)), none⟩, ⟨(some 354), (.ext (.t 349) 0), none⟩, ⟨(some 355), (.ext (.t 349) 1), none⟩, ⟨(some 62), (.mov (.t 354)), none⟩, ⟨(some 63), (.mov (.t 355)), none⟩]) (.seq (.seq (.ops [⟨(some 356), (.mov (.t 45)), none⟩, ⟨(some 357), (.mov (.t 47)), none⟩, ⟨(some 358), (.beq true (.t 356) (.t 357)), none⟩, ⟨(some 359), (.mov (.t 358)), none⟩, ⟨(some 360), (.mov (.t 44)), (some (359, false))⟩, ⟨(some 361), (.mov (.t 46)), (some (359, false))⟩, ⟨(some 362), (.bin .neq (.t 360) (.t 361)), (some (359, false))⟩, ⟨(some 363), (.pick (.t 359) (.c (.bool true)) (.t 362)), none⟩, ⟨(some 364), (.mov (.t 363)), none⟩, ⟨(some 365), (.mov (.t 49)), (some (364, false))⟩, ⟨(some 366), (.mov (.t 51)), (some (364, false))⟩, ⟨(some 367), (.beq true (.t 365) (.t 366)), (some (364, false))⟩, ⟨(some 368), (.pick (.t 364) (.c (.bool true)) (.t 367)), none⟩, ⟨(some 369), (.mov (.t 368)), none⟩, ⟨(some 370), (.mov (.t 48)), (some (369, false))⟩, ⟨(some 371), (.mov (.t 50)), (some (369, false))⟩, ⟨(some 372), (.bin .neq (.t 370) (.t 371)), (some (369, false))⟩, ⟨(some 373), (.pick (.t 369) (.c (.bool true)) (.t 372)), none⟩, ⟨(some 374), (.mov (.t 373)), none⟩, ⟨(some 375), (.mov (.t 53)), (some (374, false))⟩, ⟨(some 376), (.mov (.t 55)), (some (374, false))⟩, ⟨(some 377), (.beq true (.t 375) (.t 376)), (some (374, false))⟩, ⟨(some 378), (.pick (.t 374) (.c (.bool true)) (.t 377)), none⟩, ⟨(some 379), (.mov (.t 378)), none⟩, ⟨(some 380), (.mov (.t 52)), (some (379, false))⟩, ⟨(some 381), (.mov (.t 54)), (some (379, false))⟩, ⟨(some 382), (.bin .neq (.t 380) (.t 381)), (some (379, false))⟩, ⟨(some 383), (.pick (.t 379) (.c (.bool true)) (.t 382)), none⟩, ⟨(some 384), (.mov (.t 383)), none⟩, ⟨(some 385), (.mov (.t 53)), (some (384, false))⟩, ⟨(some 386), (.mov (.t 49)), (some (384, false))⟩, ⟨(some 387), (.beq true (.t 385) (.t 386)), (some (384, false))⟩, ⟨(some 388), (.pick (.t 384) (.c (.bool true)) (.t 387)), none⟩, ⟨(some 389), (.mov (.t 388)), none⟩, ⟨(some 390), (.mov (.t 57)), (some (389, false))⟩, ⟨(some 391), (.mov (.t 59)), (some (389, false))⟩, ⟨(some 392), (.beq true (.t 390) (.t 391)), (some (389, false))⟩, ⟨(some 393), (.pick (.t 389) (.c (.bool true)) (.t 392)), none⟩, ⟨(some 394), (.mov (.t 393)), none⟩, ⟨(some 395), (.mov (.t 56)), (some (394, false))⟩, ⟨(some 396), (.mov (.t 58)), (some (394, false))⟩, ⟨(some 397), (.bin .neq (.t 395) (.t 396)), (some (394, false))⟩, ⟨(some 398), (.pick (.t 394) (.c (.bool true)) (.t 397)), none⟩, ⟨(some 399), (.mov (.t 398)), none⟩, ⟨(some 400), (.mov (.t 61)), (some (399, false))⟩, ⟨(some 401), (.mov (.t 63)), (some (399, false))⟩, ⟨(some 402), (.beq true (.t 400) (.t 401)), (some (399, false))⟩, ⟨(some 403), (.pick (.t 399) (.c (.bool true)) (.t 402)), none⟩, ⟨(some 404), (.mov (.t 403)), none⟩, ⟨(some 405), (.mov (.t 60)), (some (404, false))⟩, ⟨(some 406), (.mov (.t 62)), (some (404, false))⟩, ⟨(some 407), (.bin .neq (.t 405) (.t 406)), (some (404, false))⟩, ⟨(some 408), (.pick (.t 404) (.c (.bool true)) (.t 407)), none⟩, ⟨(some 409), (.mov (.t 408)), none⟩, ⟨(some 410), (.mov (.t 57)), (some (409, false))⟩, ⟨(some 411), (.mov (.t 410)), (some (409, false))⟩, ⟨(some 412), (.mov (.t 61)), (some (411, true))⟩, ⟨(some 413), (.pick (.t 411) (.t 412) (.c (.bool false))), (some (409, false))⟩, ⟨(some 414), (.pick (.t 409) (.c (.bool true)) (.t 413)), none⟩]) (.cond (.t 414) (.seq (.ops [⟨(some 14), (.mov (.c (.bool false))), none⟩]) .ret) .skip)) (.seq (.seq (.ops [⟨(some 415), (.mov (.t 45)), none⟩]) (.cond (.t 415) (.seq (.ops [⟨(some 417), (.mov (.t 1)), none⟩, ⟨(some 418), (.call 11 [(.t 417)]), none⟩, ⟨(some 416), (.mov (.t 418)), none⟩, ⟨(some 419), (.ext (.t 416) 0), none⟩, ⟨(some 420), (.ext (.t 416) 1), none⟩, ⟨(some 64), (.mov (.t 419)), none⟩, ⟨(some 65), (.mov (.t 420)), none⟩]) (.seq (.ops [⟨(some 422), (.mov (.t 2)), none⟩, ⟨(some 423), (.call 11 [(.t 422)]), none⟩, ⟨(some 421), (.mov (.t 423)), none⟩, ⟨(some 424), (.ext (.t 421) 0), none⟩, ⟨(some 425), (.ext (.t 421) 1), none⟩, ⟨(some 66), (.mov (.t 424)), none⟩, ⟨(some 67), (.mov (.t 425)), none⟩]) (.seq (.ops [⟨(some 427), (.mov (.t 44)), none⟩, ⟨(some 428), (.call 11 [(.t 427)]), none⟩, ⟨(some 426), (.mov (.t 428)), none⟩, ⟨(some 429), (.ext (.t 426) 0), none⟩, ⟨(some 430), (.ext (.t 426) 1), none⟩, ⟨(some 68), (.mov (.t 429)), none⟩, ⟨(some 69), (.mov (.t 430)), none⟩]) (.seq (.seq (.ops [⟨(some 431), (.mov (.t 65)), none⟩, ⟨(some 432), (.not (.t 431)), none⟩, ⟨(some 433), (.mov (.t 432)), none⟩, ⟨(some 434), (.mov (.t 67)), (some (433, false))⟩, ⟨(some 435), (.not (.t 434)), (some (433, false))⟩, ⟨(some 436), (.pick (.t 433) (.c (.bool true)) (.t 435)), none⟩, ⟨(some 437), (.mov (.t 436)), none⟩, ⟨(some 438), (.mov (.t 69)), (some (437, false))⟩, ⟨(some 439), (.not (.t 438)), (some (437, false))⟩, ⟨(some 440), (.pick (.t 437) (.c (.bool true)) (.t 439)), none⟩]) (.cond (.t 440) (.seq (.ops [⟨(some 14), (.mov (.c (.bool false))), none⟩]) .ret) .skip)) (.seq (.ops [⟨(some 441), (.mov (.t 64)), none⟩, ⟨(some 442), (.len (.t 441)), none⟩, ⟨(some 443), (.mov (.t 66)), none⟩, ⟨(some 444), (.len (.t 443)), none⟩, ⟨(some 445), (.bin .add (.t 442) (.t 444)), none⟩, ⟨(some 446), (.bin .sub (.t 445) (.c (.int .i64 1))), none⟩, ⟨(some 447), (.mk 1 8 [(.int .i64 0)] (.t 446) (.t 446)), none⟩, ⟨(some 70), (.mov (.t 447)), none⟩]) (.seq (.seq (.ops [⟨(some 448), (.mov (.t 64)), none⟩, ⟨(some 449), (.len (.t 448)), none⟩, ⟨(some 450), (.mov (.c (.int .i64 0))), none⟩]) (.block 2 (.loop (.seq (.ops [⟨(some 451), (.bin .lss (.t 450) (.t 449)), none⟩]) (.seq (.cond (.t 451) .skip (.exit 2)) (.seq (.block 3 (.seq (.ops [⟨(some 452), (.mov (.t 450)), none⟩, ⟨(some 453), (.idx 1 (.t 448) (.t 450)), none⟩, ⟨(some 454), (.ld none (.t 453)), none⟩, ⟨(some 71), (.mov (.t 452)), none⟩, ⟨(some 72), (.mov (.t 454)), none⟩]) (.seq (.ops [⟨(some 455), (.mov (.t 66)), none⟩, ⟨(some 456), (.len (.t 455)), none⟩, ⟨(some 457), (.mov (.c (.int .i64 0))), none⟩]) (.block 4 (.loop (.seq (.ops [⟨(some 458), (.bin .lss (.t 457) (.t 456)), none⟩]) (.seq (.cond (.t 458) .skip (.exit 4)) (.seq (.block 5 (.seq (.ops [⟨(some 459), (.mov (.t 457)), none⟩, ⟨(some 460), (.idx 1 (.t 455) (.t 457)), none⟩, ⟨(some 461), (.ld none (.t 460)), none⟩, ⟨(some 73), (.mov (.t 459)), none⟩, ⟨(some 74), (.mov (.t 461)), none⟩]) (.ops [⟨(some 462), (.mov (.t 70)), none⟩, ⟨(some 463), (.mov (.t 71)), none⟩, ⟨(some 464), (.mov (.t 73)), none⟩, ⟨(some 465), (.bin .add (.t 463) (.t 464)), none⟩, ⟨(some 466), (.idx 1 (.t 462) (.t 465)), none⟩, ⟨(some 467), (.ld none (.t 466)), none⟩, ⟨(some 468), (.mov (.t 72)), none⟩, ⟨(some 469), (.mov (.t 74)), none⟩, ⟨(some 470), (.bin .mul (.t 468) (.t 469)), none⟩, ⟨(some 471), (.bin .add (.t 467) (.t 470)), none⟩, ⟨(some 472), (.idx 1 (.t 462) (.t 465)), none⟩, ⟨none, (.st 1 (.t 472) (.t 471)), none⟩]))) (.ops [⟨(some 473), (.bin .add (.t 457) (.c (.int .i64 1))), none⟩, ⟨(some 457), (.mov (.t 473)), none⟩]))))))))) (.ops [⟨(some 474), (.bin .add (.t 450) (.c (.int .i64 1))), none⟩, ⟨(some 450), (.mov (.t 474)), none⟩]))))))) (.seq (.ops [⟨(some 475), (.mov (.t 70)), none⟩, ⟨(some 476), (.mov (.t 68)), none⟩, ⟨(some 477), (.call 14 [(.t 475), (.t 476)]), none⟩, ⟨(some 478), (.not (.t 477)), none⟩]) (.cond (.t 478) (.seq (.ops [⟨(some 14), (.mov (.c (.bool false))), none⟩]) .ret) .skip)))))))) .skip)) (.seq (.seq (.ops [⟨(some 479), (.mov (.t 49)), none⟩]) (.cond (.t 479) (.seq (.ops [⟨(some 481), (.mov (.t 3)), none⟩, ⟨(some 482), (.call 25 [(.t 481)]), none⟩, ⟨(some 480), (.mov (.t 482)), none⟩, ⟨(some 483), (.ext (.t 480) 0), none⟩, ⟨(some 484), (.ext (.t 480) 1), none⟩, ⟨(some 75), (.mov (.t 483)), none⟩, ⟨(some 76), (.mov (.t 484)), none⟩]) (.seq (.ops [⟨(some 486), (.mov (.t 48)), none⟩, ⟨(some 487), (.call 26 [(.t 486)]), none⟩, ⟨(some 485), (.mov (.t 487)), none⟩, ⟨(some 488), (.ext (.t 485) 0), none⟩, ⟨(some 489), (.ext (.t 485) 1), none⟩, ⟨(some 77), (.mov (.t 488)), none⟩, ⟨(some 78), (.mov (.t 489)), none⟩]) (.seq (.ops [⟨(some 491), (.mov (.t 52)), none⟩, ⟨(some 492), (.call 26 [(.t 491)]), none⟩, ⟨(some 490), (.mov (.t 492)), none⟩, ⟨(some 493), (.ext (.t 490) 0), none⟩, ⟨(some 494), (.ext (.t 490) 1), none⟩, ⟨(some 79), (.mov (.t 493)), none⟩, ⟨(some 80), (.mov (.t 494)), none⟩]) (.seq (.ops [⟨(some 495), (.mov (.t 76)), none⟩, ⟨(some 496), (.not (.t 495)), none⟩, ⟨(some 497), (.mov (.t 496)), none⟩, ⟨(some 498), (.mov (.t 78)), (some (497, false))⟩, ⟨(some 499), (.not (.t 498)), (some (497, false))⟩, ⟨(some 500), (.pick (.t 497) (.c (.bool true)) (.t 499)), none⟩, ⟨(some 501), (.mov (.t 500)), none⟩, ⟨(some 502), (.mov (.t 77)), (some (501, false))⟩, ⟨(some 503), (.mov (.t 75)), (some (501, false))⟩, ⟨(some 504), (.bin .neq (.t 502) (.t 503)), (some (501, false))⟩, ⟨(some 505), (.pick (.t 501) (.c (.bool true)) (.t 504)), none⟩, ⟨(some 506), (.mov (.t 505)), none⟩, ⟨(some 507), (.mov (.t 80)), (some (506, false))⟩, ⟨(some 508), (.not (.t 507)), (some (506, false))⟩, ⟨(some 509), (.pick (.t 506) (.c (.bool true)) (.t 508)), none⟩, ⟨(some 510), (.mov (.t 509)), none⟩, ⟨(some 511), (.mov (.t 79)), (some (510, false))⟩, ⟨(some 512), (.mov (.t 77)), (some (510, false))⟩, ⟨(some 513), (.bin .gtr (.t 511) (.t 512)), (some (510, false))⟩, ⟨(some 514), (.pick (.t 510) (.c (.bool true)) (.t 513)), none⟩]) (.cond (.t 514) (.seq (.ops [⟨(some 14), (.mov (.c (.bool false))), none⟩]) .ret) .skip))))) .skip)) (.seq (.seq (.ops [⟨(some 515), (.mov (.t 57)), none⟩]) (.cond (.t 515) (.seq (.ops [⟨(some 517), (.mov (.t 56)), none⟩, ⟨(some 518), (.mov (.t 5)), none⟩, ⟨(some 519), (.mov (.t 6)), none⟩, ⟨(some 520), (.call 23 [(.t 517), (.t 518), (.t 519)]), none⟩, ⟨(some 516), (.mov (.t 520)), none⟩, ⟨(some 521), (.ext (.t 516) 0), none⟩, ⟨(some 522), (.ext (.t 516) 1), none⟩, ⟨(some 81), (.mov (.t 521)), none⟩, ⟨(some 82), (.mov (.t 522)), none⟩]) (.seq (.ops [⟨(some 524), (.mov (.t 4)), none⟩, ⟨(some 525), (.call 26 [(.t 524)]), none⟩, ⟨(some 523), (.mov (.t 525)), none⟩, ⟨(some 526), (.ext (.t 523) 0), none⟩, ⟨(some 527), (.ext (.t 523) 1), none⟩, ⟨(some 83), (.mov (.t 526)), none⟩, ⟨(some 84), (.mov (.t 527)), none⟩]) (.seq (.ops [⟨(some 529), (.mov (.t 56)), none⟩, ⟨(some 530), (.call 26 [(.t 529)]), none⟩, ⟨(some 528), (.mov (.t 530)), none⟩, ⟨(some 531), (.ext (.t 528) 0), none⟩, ⟨(some 532), (.ext (.t 528) 1), none⟩, ⟨(some 85), (.mov (.t 531)), none⟩, ⟨(some 86), (.mov (.t 532)), none⟩]) (.seq (.ops [⟨(some 533), (.mov (.t 82)), none⟩, ⟨(some 534), (.not (.t 533)), none⟩, ⟨(some 535), (.mov (.t 534)), none⟩, ⟨(some 536), (.mov (.t 81)), (some (535, false))⟩, ⟨(some 537), (.mov (.t 4)), (some (535, false))⟩, ⟨(some 538), (.bin .neq (.t 536) (.t 537)), (some (535, false))⟩, ⟨(some 539), (.pick (.t 535) (.c (.bool true)) (.t 538)), none⟩, ⟨(some 540), (.mov (.t 539)), none⟩, ⟨(some 541), (.mov (.t 84)), (some (540, false))⟩, ⟨(some 542), (.not (.t 541)), (some (540, false))⟩, ⟨(some 543), (.pick (.t 540) (.c (.bool true)) (.t 542)), none⟩, ⟨(some 544), (.mov (.t 543)), none⟩, ⟨(some 545), (.mov (.t 86)), (some (544, false))⟩, ⟨(some 546), (.not (.t 545)), (some (544, false))⟩, ⟨(some 547), (.pick (.t 544) (.c (.bool true)) (.t 546)), none⟩, ⟨(some 548), (.mov (.t 547)), none⟩, ⟨(some 549), (.mov (.t 85)), (some (548, false))⟩, ⟨(some 550), (.mov (.t 83)), (some (548, false))⟩, ⟨(some 551), (.bin .gtr (.t 549) (.t 550)), (some (548, false))⟩, ⟨(some 552), (.pick (.t 548) (.c (.bool true)) (.t 551)), none⟩]) (.cond (.t 552) (.seq (.ops [⟨(some 14), (.mov (.c (.bool false))), none⟩]) .ret) .skip))))) .skip)) (.seq (.seq (.ops [⟨(some 553), (.mov (.t 61)), none⟩]) (.cond (.t 553) (.seq (.ops [⟨(some 555), (.mov (.t 60)), none⟩, ⟨(some 556), (.mov (.t 5)), none⟩, ⟨(some 557), (.mov (.t 6)), none⟩, ⟨(some 558), (.call 21 [(.t 555), (.t 556), (.t 557)]), none⟩, ⟨(some 554), (.mov (.t 558)), none⟩, ⟨(some 559), (.ext (.t 554) 0), none⟩, ⟨(some 560), (.ext (.t 554) 1), none⟩, ⟨(some 87), (.mov (.t 559)), none⟩, ⟨(some 88), (.mov (.t 560)), none⟩]) (.seq (.ops [⟨(some 561), (.mov (.t 88)), none⟩, ⟨(some 562), (.mov (.t 561)), none⟩, ⟨(some 563), (.mov (.t 87)), (some (562, true))⟩, ⟨(some 564), (.mov (.t 4)), (some (562, true))⟩, ⟨(some 565), (.bin .eql (.t 563) (.t 564)), (some (562, true))⟩, ⟨(some 566), (.pick (.t 562) (.t 565) (.c (.bool false))), none⟩, ⟨(some 14), (.mov (.t 566)), none⟩]) .ret)) .skip)) (.seq (.ops [⟨(some 14), (.mov (.c (.bool true))), none⟩]) .ret))))))))))))))))))))))))))
theorem cc3 : ccode Tryd.prog (min Tryd.f3.ntmps pbase) (Tryd.f3.body.getD .skip) = some ac3 := by kernel_rfl
def ac4 : ACode := (.seq (.ops [⟨(some 2), (.mov (.c (.string (.mk #[])))), none⟩, ⟨(some 3), (.mov (.c (.bool false))), none⟩]) (.seq (.ops [⟨(some 7), (.mov (.t 0)), none⟩, ⟨(some 8), (.call 27 [(.t 7)]), none⟩, ⟨(some 6), (.mov (.t 8)), none⟩, ⟨(some 9), (.ext (.t 6) 0), none⟩, ⟨(some 10), (.ext (.t 6) 1), none⟩, ⟨(some 4), (.alloc [(.int .i64 0), (.map none)]), none⟩, ⟨none, (.st 2 (.t 4) (.t 9)), none⟩, ⟨(some 5), (.mov (.t 10)), none⟩]) (.seq (.seq (.ops [⟨(some 11), (.mov (.t 5)), none⟩, ⟨(some 12), (.not (.t 11)), none⟩]) (.cond (.t 12) (.seq (.ops [⟨(some 2), (.mov (.c (.string (.mk #[])))), none⟩, ⟨(some 3), (.mov (.c (.bool false))), none⟩]) .ret) .skip)) (.seq (.ops [⟨(some 13), (.fa 0 (.t 4)), none⟩, ⟨(some 14), (.ld none (.t 13)), none⟩, ⟨(some 15), (.mkf 29 0 [(.t 4)]), none⟩, ⟨(some 16), (.call 28 [(.t 14), (.t 15)]), none⟩, ⟨(some 2), (.mov (.t 16)), none⟩, ⟨(some 3), (.mov (.c (.bool true))), none⟩]) .ret))))
theorem cc4 : ccode Tryd.prog (min Tryd.f4.ntmps pbase) (Tryd.f4.body.getD .skip) = some ac4 := by kernel_rfl
def ac5 : ACode := (.seq (.ops [⟨(some 2), (.mov (.c (.string (.mk #[])))), none⟩, ⟨(some 3), (.mov (.c (.bool false))), none⟩]) (.seq (.seq (.ops [⟨(some 7), (.mov (.t 0)), none⟩, ⟨(some 8), (.call 30 [(.t 7)]), none⟩, ⟨(some 9), (.not (.t 8)), none⟩]) (.cond (.t 9) (.seq (.ops [⟨(some 2), (.mov (.c (.string (.mk #[])))), none⟩, ⟨(some 3), (.mov (.c (.bool false))), none⟩]) .ret) .skip)) (.seq (.ops [⟨(some 4), (.nils 1), none⟩]) (.seq (.seq (.ops [⟨(some 10), (.mov (.t 0)), none⟩, ⟨(some 11), (.call 31 [(.t 10)]), none⟩, ⟨(some 12), (.len (.t 11)), none⟩, ⟨(some 13), (.mov (.c (.int .i64 0))), none⟩]) (.block 0 (.loop (.seq (.ops [⟨(some 14), (.bin .lss (.t 13) (.t 12)), none⟩]) (.seq (.cond (.t 14) .skip (.exit 0)) (.seq (.block 1 (.seq (.ops [⟨(some 15), (.idx 1 (.t 11) (.t 13)), none⟩, ⟨(some 16), (.ld none (.t 15)), none⟩, ⟨(some 6), (.mov (.t 16)), none⟩]) (.tree (.take ⟨(some 18), (.mov (.t 6)), none⟩ (.take ⟨(some 19), (.idx 1 (.t 18) (.c (.int .i64 1))), none⟩ (.take ⟨(some 20), (.ld none (.t 19)), none⟩ (.two ⟨(some 17), (.mov (.t 4)), none⟩ (.take ⟨(some 21), (.mov (.t 6)), none⟩ (.take ⟨(some 22), (.idx 1 (.t 21) (.c (.int .i64 0))), none⟩ (.take ⟨(some 23), (.ld none (.t 22)), none⟩ (.take ⟨(some 24), (.bsl 1 2 [(.int .i64 0)] [(0, (.t 20)), (1, (.t 23))]), none⟩ (.take ⟨(some 25), (.bsl 1 1 [(.slice none 0 0)] [(0, (.t 24))]), none⟩ (.take ⟨(some 26), (.app 1 24 (.t 17) (.t 25)), none⟩ (.take ⟨(some 4), (.mov (.t 26)), none⟩ .done))))))) ⟨(some 21), (.mov (.t 6)), none⟩ (.two ⟨(some 17), (.mov (.t 4)), none⟩ (.take ⟨(some 22), (.idx 1 (.t 21) (.c (.int .i64 0))), none⟩ (.take ⟨(some 23), (.ld none (.t 22)), none⟩ (.take ⟨(some 24), (.bsl 1 2 [(.int .i64 0)] [(0, (.t 20)), (1, (.t 23))]), none⟩ (.take ⟨(some 25), (.bsl 1 1 [(.slice none 0 0)] [(0, (.t 24))]), none⟩ (.take ⟨(some 26), (.app 1 24 (.t 17) (.t 25)), none⟩ (.take ⟨(some 4), (.mov (.t 26)), none⟩ .done)))))) ⟨(some 22), (.idx 1 (.t 21) (.c (.int .i64 0))), none⟩ (.two ⟨(some 17), (.mov (.t 4)), none⟩ (.take ⟨(some 23), (.ld none (.t 22)), none⟩ (.take ⟨(some 24), (.bsl 1 2 [(.int .i64 0)] [(0, (.t 20)), (1, (.t 23))]), none⟩ (.take ⟨(some 25), (.bsl 1 1 [(.slice none 0 0)] [(0, (.t 24))]), none⟩ (.take ⟨(some 26), (.app 1 24 (.t 17) (.t 25)), none⟩ (.take ⟨(some 4), (.mov (.t 26)), none⟩ .done))))) ⟨(some 23), (.ld none (.t 22)), none⟩ (.two ⟨(some 17), (.mov (.t 4)), none⟩ (.take ⟨(some 24), (.bsl 1 2 [(.int .i64 0)] [(0, (.t 20)), (1, (.t 23))]), none⟩ (.take ⟨(some 25), (.bsl 1 1 [(.slice none 0 0)] [(0, (.t 24))]), none⟩ (.take ⟨(some 26), (.app 1 24 (.t 17) (.t 25)), none⟩ (.take ⟨(some 4), (.mov (.t 26)), none⟩ .done)))) ⟨(some 24), (.bsl 1 2 [(.int .i64 0)] [(0, (.t 20)), (1, (.t 23))]), none⟩ (.two ⟨(some 17), (.mov (.t 4)), none⟩ (.take ⟨(some 25), (.bsl 1 1 [(.slice none 0 0)] [(0, (.t 24))]), none⟩ (.take ⟨(some 26), (.app 1 24 (.t 17) (.t 25)), none⟩ (.take ⟨(some 4), (.mov (.t 26)), none⟩ .done))) ⟨(some 25), (.bsl 1 1 [(.slice none 0 0)] [(0, (.t 24))]), none⟩ (.take ⟨(some 17), (.mov (.t 4)), none⟩ (.take ⟨(some 26), (.app 1 24 (.t 17) (.t 25)), none⟩ (.take ⟨(some 4), (.mov (.t 26)), none⟩ .done)))))))))))))) (.ops [⟨(some 27), (.bin .add (.t 13) (.c (.int .i64 1))), none⟩, ⟨(some 13), (.mov (.t 27)), none⟩]))))))) (.seq (.ops [⟨(some 28), (.mov (.t 0)), none⟩, ⟨(some 29), (.call 33 [(.t 28)]), none⟩, ⟨(some 30), (.mov (.t 4)), none⟩, ⟨(some 31), (.call 32 [(.t 29), (.t 30)]), none⟩, ⟨(some 2), (.mov (.t 31)), none⟩, ⟨(some 3), (.mov (.c (.bool true))), none⟩]) .ret)))))
theorem cc5 : ccode Tryd.prog (min Tryd.f5.ntmps pbase) (Tryd.f5.body.getD .skip) = some ac5 := by kernel_rfl
def ac6 : ACode := (.seq (.ops [⟨(some 2), (.mov (.c (.string (.mk #[])))), none⟩, ⟨(some 3), (.mov (.c (.bool false))), none⟩]) (.seq (.ops [⟨(some 7), (.mov (.t 0)), none⟩, ⟨(some 8), (.call 27 [(.t 7)]), none⟩, ⟨(some 6), (.mov (.t 8)), none⟩, ⟨(some 9), (.ext (.t 6) 0), none⟩, ⟨(some 10), (.ext (.t 6) 1), none⟩, ⟨(some 4), (.alloc [(.int .i64 0), (.map none)]), none⟩, ⟨none, (.st 2 (.t 4) (.t 9)), none⟩, ⟨(some 5), (.mov (.t 10)), none⟩]) (.seq (.seq (.ops [⟨(some 11), (.mov (.t 5)), none⟩, ⟨(some 12), (.not (.t 11)), none⟩]) (.cond (.t 12) (.seq (.ops [⟨(some 2), (.mov (.c (.string (.mk #[])))), none⟩, ⟨(some 3), (.mov (.c (.bool false))), none⟩]) .ret) .skip)) (.seq (.ops [⟨(some 13), (.fa 0 (.t 4)), none⟩, ⟨(some 14), (.ld none (.t 13)), none⟩, ⟨(some 15), (.mkf 34 0 [(.t 4)]), none⟩, ⟨(some 16), (.call 28 [(.t 14), (.t 15)]), none⟩, ⟨(some 2), (.mov (.t 16)), none⟩, ⟨(some 3), (.mov (.c (.bool true))), none⟩]) .ret))))
theorem cc6 : ccode Tryd.prog (min Tryd.f6.ntmps pbase) (Tryd.f6.body.getD .skip) = some ac6 := by kernel_rfl
def ac7 : ACode := (.seq (.ops [⟨(some 2), (.mov (.c (.string (.mk #[])))), none⟩, ⟨(some 3), (.mov (.c (.bool false))), none⟩]) (.seq (.seq (.ops [⟨(some 6), (.mov (.t 0)), none⟩, ⟨(some 7), (.call 30 [(.t 6)]), none⟩, ⟨(some 8), (.not (.t 7)), none⟩]) (.cond (.t 8) (.seq (.ops [⟨(some 2), (.mov (.c (.string (.mk #[])))), none⟩, ⟨(some 3), (.mov (.c (.bool false))), none⟩]) .ret) .skip)) (.seq (.ops [⟨(some 4), (.mov (.c (.string (.mk #[])))), none⟩]) (.seq (.seq (.ops [⟨(some 5), (.mov (.c (.int .i64 0))), none⟩]) (.block 0 (.loop (.seq (.seq (.ops [⟨(some 9), (.mov (.t 5)), none⟩, ⟨(some 10), (.mov (.t 0)), none⟩, ⟨(some 11), (.slen (.t 10)), none⟩, ⟨(some 12), (.bin .lss (.t 9) (.t 11)), none⟩]) (.cond (.t 12) .skip (.exit 0))) (.seq (.block 1 (.seq (.ops [⟨(some 15), (.mov (.t 0)), none⟩, ⟨(some 16), (.mov (.t 5)), none⟩, ⟨(some 17), (.pu .six [(.t 15), (.t 16)]), none⟩]) (.block 2 (.seq (.ops [⟨(some 21), (.bin .eql (.t 17) (.c (.int .u8 46))), none⟩, ⟨(some 20), (.mov (.t 21)), none⟩]) (.cond (.t 20) (.ops [⟨(some 22), (.mov (.t 4)), none⟩, ⟨(some 23), (.bin .add (.t 22) (.c (.string (.mk #[35])))), none⟩, ⟨(some 4), (.mov (.t 23)), none⟩]) (.seq (.ops [⟨(some 25), (.bin .eql (.t 17) (.c (.int .u8 35))), none⟩, ⟨(some 24), (.mov (.t 25)), none⟩]) (.cond (.t 24) (.ops [⟨(some 26), (.mov (.t 4)), none⟩, ⟨(some 27), (.bin .add (.t 26) (.c (.string (.mk #[46])))), none⟩, ⟨(some 4), (.mov (.t 27)), none⟩]) (.ops [⟨(some 18), (.mov (.t 4)), none⟩, ⟨(some 19), (.bin .add (.t 18) (.c (.string (.mk #[47])))), none⟩, ⟨(some 4), (.mov (.t 19)), none⟩])))))))) (.ops [⟨(some 13), (.mov (.t 5)), none⟩, ⟨(some 14), (.bin .add (.t 13) (.c (.int .i64 1))), none⟩, ⟨(some 5), (.mov (.t 14)), none⟩])))))) (.seq (.ops [⟨(some 28), (.mov (.t 4)), none⟩, ⟨(some 2), (.mov (.t 28)), none⟩, ⟨(some 3), (.mov (.c (.bool true))), none⟩]) .ret)))))
theorem cc7 : ccode Tryd.prog (min Tryd.f7.ntmps pbase) (Tryd.f7.body.getD .skip) = some ac7 := by kernel_rfl
def ac8 : ACode := (.seq (.ops [⟨(some 2), (.mov (.c (.int .i64 0))), none⟩, ⟨(some 3), (.mov (.c (.bool false))), none⟩]) (.seq (.ops [⟨(some 7), (.mov (.t 0)), none⟩, ⟨(some 8), (.call 27 [(.t 7)]), none⟩, ⟨(some 6), (.mov (.t 8)), none⟩, ⟨(some 9), (.ext (.t 6) 0), none⟩, ⟨(some 10), (.ext (.t 6) 1), none⟩, ⟨(some 4), (.alloc [(.int .i64 0), (.map none)]), none⟩, ⟨none, (.st 2 (.t 4) (.t 9)), none⟩, ⟨(some 5), (.mov (.t 10)), none⟩]) (.seq (.ops [⟨(some 11), (.fa 0 (.t 4)), none⟩, ⟨(some 12), (.ld none (.t 11)), none⟩, ⟨(some 13), (.mov (.t 5)), none⟩, ⟨(some 2), (.mov (.t 12)), none⟩, ⟨(some 3), (.mov (.t 13)), none⟩]) .ret)))
theorem cc8 : ccode Tryd.prog (min Tryd.f8.ntmps pbase) (Tryd.f8.body.getD .skip) = some ac8 := by kernel_rfl
def ac9 : ACode := (.seq (.ops [⟨(some 2), (.mov (.c (.int .i64 0))), none⟩, ⟨(some 3), (.mov (.c (.bool false))), none⟩]) (.seq (.seq (.ops [⟨(some 4), (.mov (.t 0)), none⟩, ⟨(some 5), (.call 30 [(.t 4)]), none⟩, ⟨(some 6), (.not (.t 5)), none⟩]) (.cond (.t 6) (.seq (.ops [⟨(some 2), (.mov (.c (.int .i64 0))), none⟩, ⟨(some 3), (.mov (.c (.bool false))), none⟩]) .ret) .skip)) (.seq (.ops [⟨(some 7), (.mov (.t 0)), none⟩, ⟨(some 8), (.call 33 [(.t 7)]), none⟩, ⟨(some 2), (.mov (.t 8)), none⟩, ⟨(some 3), (.mov (.c (.bool true))), none⟩]) .ret)))
theorem cc9 : ccode Tryd.prog (min Tryd.f9.ntmps pbase) (Tryd.f9.body.getD .skip) = some ac9 := by kernel_rfl
def ac10 : ACode := (.seq (.ops [⟨(some 2), (.mov (.c (.bool false))), none⟩]) (.seq (.ops [⟨(some 6), (.mov (.t 0)), none⟩, ⟨(some 7), (.call 27 [(.t 6)]), none⟩, ⟨(some 5), (.mov (.t 7)), none⟩, ⟨(some 8), (.ext (.t 5) 0), none⟩, ⟨(some 9), (.ext (.t 5) 1), none⟩, ⟨(some 3), (.alloc [(.int .i64 0), (.map none)]), none⟩, ⟨none, (.st 2 (.t 3) (.t 8)), none⟩, ⟨(some 4), (.mov (.t 9)), none⟩]) (.seq (.ops [⟨(some 10), (.mov (.t 4)), none⟩, ⟨(some 2), (.mov (.t 10)), none⟩]) .ret)))
theorem cc10 : ccode Tryd.prog (min Tryd.f10.ntmps pbase) (Tryd.f10.body.getD .skip) = some ac10 := by kernel_rfl
def ac11 : ACode := (.seq (.ops [⟨(some 2), (.nils 1), none⟩, ⟨(some 3), (.mov (.c (.bool false))), none⟩]) (.seq (.ops [⟨(some 7), (.mov (.t 0)), none⟩, ⟨(some 8), (.call 27 [(.t 7)]), none⟩, ⟨(some 6), (.mov (.t 8)), none⟩, ⟨(some 9), (.ext (.t 6) 0), none⟩, ⟨(some 10), (.ext (.t 6) 1), none⟩, ⟨(some 4), (.alloc [(.int .i64 0), (.map none)]), none⟩, ⟨none, (.st 2 (.t 4) (.t 9)), none⟩, ⟨(some 5), (.mov (.t 10)), none⟩]) (.seq (.seq (.ops [⟨(some 11), (.mov (.t 5)), none⟩, ⟨(some 12), (.not (.t 11)), none⟩]) (.cond (.t 12) (.seq (.ops [⟨(some 2), (.nils 1), none⟩, ⟨(some 3), (.mov (.c (.bool false))), none⟩]) .ret) .skip)) (.seq (.ops [⟨(some 13), (.ld (some 2) (.t 4)), none⟩, ⟨(some 14), (.call 35 [(.t 13)]), none⟩, ⟨(some 2), (.mov (.t 14)), none⟩, ⟨(some 3), (.mov (.c (.bool true))), none⟩]) .ret))))
theorem cc11 : ccode Tryd.prog (min Tryd.f11.ntmps pbase) (Tryd.f11.body.getD .skip) = some ac11 := by kernel_rfl
def ac12 : ACode := (.seq (.ops [⟨(some 2), (.nils 1), none⟩, ⟨(some 3), (.mov (.c (.bool false))), none⟩]) (.seq (.ops [⟨(some 7), (.mov (.t 0)), none⟩, ⟨(some 8), (.call 27 [(.t 7)]), none⟩, ⟨(some 6), (.mov (.t 8)), none⟩, ⟨(some 9), (.ext (.t 6) 0), none⟩, ⟨(some 10), (.ext (.t 6) 1), none⟩, ⟨(some 4), (.alloc [(.int .i64 0), (.map none)]), none⟩, ⟨none, (.st 2 (.t 4) (.t 9)), none⟩, ⟨(some 5), (.mov (.t 10)), none⟩]) (.seq (.seq (.ops [⟨(some 11), (.mov (.t 5)), none⟩, ⟨(some 12), (.not (.t 11)), none⟩]) (.cond (.t 12) (.seq (.ops [⟨(some 2), (.nils 1), none⟩, ⟨(some 3), (.mov (.c (.bool false))), none⟩]) .ret) .skip)) (.seq (.ops [⟨(some 13), (.ld (some 2) (.t 4)), none⟩, ⟨(some 14), (.call 36 [(.t 13)]), none⟩, ⟨(some 2), (.mov (.t 14)), none⟩, ⟨(some 3), (.mov (.c (.bool true))), none⟩]) .ret))))
theorem cc12 : ccode Tryd.prog (min Tryd.f12.ntmps pbase) (Tryd.f12.body.getD .skip) = some ac12 := by kernel_rfl
def ac13 : ACode := (.seq (.ops [⟨(some 2), (.nils 1), none⟩, ⟨(some 3), (.mov (.c (.bool false))), none⟩]) (.seq (.ops [⟨(some 10), (.mov (.t 0)), none⟩, ⟨(some 11), (.call 27 [(.t 10)]), none⟩, ⟨(some 9), (.mov (.t 11)), none⟩, ⟨(some 12), (.ext (.t 9) 0), none⟩, ⟨(some 13), (.ext (.t 9) 1), none⟩, ⟨(some 4), (.alloc [(.int .i64 0), (.map none)]), none⟩, ⟨none, (.st 2 (.t 4) (.t 12)), none⟩, ⟨(some 5), (.mov (.t 13)), none⟩]) (.seq (.seq (.ops [⟨(some 14), (.mov (.t 5)), none⟩, ⟨(some 15), (.not (.t 14)), none⟩]) (.cond (.t 15) (.seq (.ops [⟨(some 2), (.nils 1), none⟩, ⟨(some 3), (.mov (.c (.bool false))), none⟩]) .ret) .skip)) (.seq (.ops [⟨(some 6), (.nils 1), none⟩]) (.seq (.seq (.ops [⟨(some 16), (.fa 0 (.t 4)), none⟩, ⟨(some 17), (.ld none (.t 16)), none⟩, ⟨(some 18), (.mov (.c (.int .i64 0))), none⟩]) (.block 0 (.loop (.seq (.ops [⟨(some 19), (.bin .lss (.t 18) (.t 17)), none⟩]) (.seq (.cond (.t 19) .skip (.exit 0)) (.seq (.block 1 (.seq (.ops [⟨(some 20), (.mov (.t 18)), none⟩, ⟨(some 7), (.mov (.t 20)), none⟩]) (.seq (.ops [⟨(some 21), (.fa 0 (.t 4)), none⟩, ⟨(some 22), (.ld none (.t 21)), none⟩, ⟨(some 23), (.mov (.c (.int .i64 0))), none⟩]) (.block 2 (.loop (.seq (.ops [⟨(some 24), (.bin .lss (.t 23) (.t 22)), none⟩]) (.seq (.cond (.t 24) .skip (.exit 2)) (.seq (.block 3 (.seq (.ops [⟨(some 25), (.mov (.t 23)), none⟩, ⟨(some 8), (.mov (.t 25)), none⟩]) (.seq (.ops [⟨(some 26), (.fa 1 (.t 4)), none⟩, ⟨(some 27), (.ld none (.t 26)), none⟩, ⟨(some 28), (.mov (.t 7)), none⟩, ⟨(some 29), (.mov (.t 8)), none⟩, ⟨(some 30), (.pu (.bld [(.int .i64 0), (.int .i64 0)] [(0, 1), (1, 1)]) [(.t 28), (.t 29)]), none⟩, ⟨(some 31), (.mgetk 46 (.bool false) false (.t 27) (.t 30)), none⟩]) (.cond (.t 31) (.ops [⟨(some 32), (.mov (.t 6)), none⟩, ⟨(some 33), (.mov (.t 7)), none⟩, ⟨(some 34), (.mov (.t 8)), none⟩, ⟨(some 35), (.bsl 1 2 [(.int .i64 0)] [(0, (.t 33)), (1, (.t 34))]), none⟩, ⟨(some 36), (.bsl 1 1 [(.slice none 0 0)] [(0, (.t 35))]), none⟩, ⟨(some 37), (.app 1 24 (.t 32) (.t 36)), none⟩, ⟨(some 6), (.mov (.t 37)), none⟩]) .skip)))) (.ops [⟨(some 38), (.bin .add (.t 23) (.c (.int .i64 1))), none⟩, ⟨(some 23), (.mov (.t 38)), none⟩]))))))))) (.ops [⟨(some 39), (.bin .add (.t 18) (.c (.int .i64 1))), none⟩, ⟨(some 18), (.mov (.t 39)), none⟩]))))))) (.seq (.ops [⟨(some 40), (.mov (.t 6)), none⟩, ⟨(some 2), (.mov (.t 40)), none⟩, ⟨(some 3), (.mov (.c (.bool true))), none⟩]) .ret))))))
theorem cc13 : ccode Tryd.prog (min Tryd.f13.ntmps pbase) (Tryd.f13.body.getD .skip) = some ac13 := by kernel_rfl
def ac14 : ACode := (.seq (.ops [⟨(some 4), (.mov (.c (.bool false))), none⟩]) (.seq (.seq (.ops [⟨(some 6), (.mov (.t 0)), none⟩, ⟨(some 7), (.len (.t 6)), none⟩, ⟨(some 8), (.mov (.t 1)), none⟩, ⟨(some 9), (.len (.t 8)), none⟩, ⟨(some 10), (.bin .neq (.t 7) (.t 9)), none⟩]) (.cond (.t 10) (.seq (.ops [⟨(some 4), (.mov (.c (.bool false))), none⟩]) .ret) .skip)) (.seq (.seq (.ops [⟨(some 11), (.mov (.t 0)), none⟩, ⟨(some 12), (.len (.t 11)), none⟩, ⟨(some 13), (.mov (.c (.int .i64 0))), none⟩]) (.block 0 (.loop (.seq (.ops [⟨(some 14), (.bin .lss (.t 13) (.t 12)), none⟩]) (.seq (.cond (.t 14) .skip (.exit 0)) (.seq (.block 1 (.seq (.ops [⟨(some 15), (.mov (.t 13)), none⟩, ⟨(some 5), (.mov (.t 15)), none⟩]) (.seq (.tree (.take ⟨(some 16), (.mov (.t 0)), none⟩ (.take ⟨(some 17), (.mov (.t 5)), none⟩ (.take ⟨(some 18), (.idx 1 (.t 16) (.t 17)), none⟩ (.take ⟨(some 19), (.ld none (.t 18)), none⟩ (.take ⟨(some 20), (.mov (.t 1)), none⟩ (.take ⟨(some 21), (.mov (.t 5)), none⟩ (.take ⟨(some 22), (.idx 1 (.t 20) (.t 21)), none⟩ (.take ⟨(some 23), (.ld none (.t 22)), none⟩ (.take ⟨(some 24), (.bin .neq (.t 19) (.t 23)), none⟩ .done)))))))))) (.cond (.t 24) (.seq (.ops [⟨(some 4), (.mov (.c (.bool false))), none⟩]) .ret) .skip)))) (.ops [⟨(some 25), (.bin .add (.t 13) (.c (.int .i64 1))), none⟩, ⟨(some 13), (.mov (.t 25)), none⟩]))))))) (.seq (.ops [⟨(some 4), (.mov (.c (.bool true))), none⟩]) .ret))))
theorem cc14 : ccode Tryd.prog (min Tryd.f14.ntmps pbase) (Tryd.f14.body.getD .skip) = some ac14 := by kernel_rfl
def ac15 : ACode := (.seq (.ops [⟨(some 4), (.mov (.c (.string (.mk #[])))), none⟩, ⟨(some 5), (.mov (.c (.bool false))), none⟩]) (.seq (.ops [⟨(some 11), (.mov (.t 0)), none⟩, ⟨(some 12), (.call 27 [(.t 11)]), none⟩, ⟨(some 10), (.mov (.t 12)), none⟩, ⟨(some 13), (.ext (.t 10) 0), none⟩, ⟨(some 14), (.ext (.t 10) 1), none⟩, ⟨(some 6), (.alloc [(.int .i64 0), (.map none)]), none⟩, ⟨none, (.st 2 (.t 6) (.t 13)), none⟩, ⟨(some 7), (.mov (.t 14)), none⟩]) (.seq (.ops [⟨(some 16), (.mov (.t 1)), none⟩, ⟨(some 17), (.call 27 [(.t 16)]), none⟩, ⟨(some 15), (.mov (.t 17)), none⟩, ⟨(some 18), (.ext (.t 15) 0), none⟩, ⟨(some 19), (.ext (.t 15) 1), none⟩, ⟨(some 8), (.alloc [(.int .i64 0), (.map none)]), none⟩, ⟨none, (.st 2 (.t 8) (.t 18)), none⟩, ⟨(some 9), (.mov (.t 19)), none⟩]) (.seq (.seq (.ops [⟨(some 20), (.mov (.t 7)), none⟩, ⟨(some 21), (.not (.t 20)), none⟩, ⟨(some 22), (.mov (.t 21)), none⟩, ⟨(some 23), (.mov (.t 9)), (some (22, false))⟩, ⟨(some 24), (.not (.t 23)), (some (22, false))⟩, ⟨(some 25), (.pick (.t 22) (.c (.bool true)) (.t 24)), none⟩, ⟨(some 26), (.mov (.t 25)), none⟩, ⟨(some 27), (.fa 0 (.t 6)), (some (26, false))⟩, ⟨(some 28), (.ld none (.t 27)), (some (26, false))⟩, ⟨(some 29), (.fa 0 (.t 8)), (some (26, false))⟩, ⟨(some 30), (.ld none (.t 29)), (some (26, false))⟩, ⟨(some 31), (.bin .add (.t 28) (.t 30)), (some (26, false))⟩, ⟨(some 32), (.call 37 [(.t 31)]), (some (26, false))⟩, ⟨(some 33), (.not (.t 32)), (some (26, false))⟩, ⟨(some 34), (.pick (.t 26) (.c (.bool true)) (.t 33)), none⟩]) (.cond (.t 34) (.seq (.ops [⟨(some 4), (.mov (.c (.string (.mk #[])))), none⟩, ⟨(some 5), (.mov (.c (.bool false))), none⟩]) .ret) .skip)) (.seq (.ops [⟨(some 35), (.fa 0 (.t 6)), none⟩, ⟨(some 36), (.ld none (.t 35)), none⟩, ⟨(some 37), (.fa 0 (.t 8)), none⟩, ⟨(some 38), (.ld none (.t 37)), none⟩, ⟨(some 39), (.bin .add (.t 36) (.t 38)), none⟩, ⟨(some 40), (.mkf 38 0 [(.t 6), (.t 8)]), none⟩, ⟨(some 41), (.call 28 [(.t 39), (.t 40)]), none⟩, ⟨(some 4), (.mov (.t 41)), none⟩, ⟨(some 5), (.mov (.c (.bool true))), none⟩]) .ret)))))
theorem cc15 : ccode Tryd.prog (min Tryd.f15.ntmps pbase) (Tryd.f15.body.getD .skip) = some ac15 := by kernel_rfl
def ac16 : ACode := (.seq (.ops [⟨(some 4), (.mov (.c (.string (.mk #[])))), none⟩, ⟨(some 5), (.mov (.c (.bool false))), none⟩]) (.seq (.seq (.ops [⟨(some 9), (.mov (.t 0)), none⟩, ⟨(some 10), (.call 30 [(.t 9)]), none⟩, ⟨(some 11), (.not (.t 10)), none⟩, ⟨(some 12), (.mov (.t 11)), none⟩, ⟨(some 13), (.mov (.t 1)), (some (12, false))⟩, ⟨(some 14), (.call 30 [(.t 13)]), (some (12, false))⟩, ⟨(some 15), (.not (.t 14)), (some (12, false))⟩, ⟨(some 16), (.pick (.t 12) (.c (.bool true)) (.t 15)), none⟩, ⟨(some 17), (.mov (.t 16)), none⟩, ⟨(some 18), (.mov (.t 0)), (some (17, false))⟩, ⟨(some 19), (.call 33 [(.t 18)]), (some (17, false))⟩, ⟨(some 20), (.mov (.t 1)), (some (17, false))⟩, ⟨(some 21), (.call 33 [(.t 20)]), (some (17, false))⟩, ⟨(some 22), (.bin .add (.t 19) (.t 21)), (some (17, false))⟩, ⟨(some 23), (.bin .gtr (.t 22) (.c (.int .i64 8))), (some (17, false))⟩, ⟨(some 24), (.pick (.t 17) (.c (.bool true)) (.t 23)), none⟩]) (.cond (.t 24) (.seq (.ops [⟨(some 4), (.mov (.c (.string (.mk #[])))), none⟩, ⟨(some 5), (.mov (.c (.bool false))), none⟩]) .ret) .skip)) (.seq (.ops [⟨(some 25), (.mov (.t 0)), none⟩, ⟨(some 26), (.call 31 [(.t 25)]), none⟩, ⟨(some 6), (.mov (.t 26)), none⟩]) (.seq (.seq (.ops [⟨(some 27), (.mov (.t 1)), none⟩, ⟨(some 28), (.call 31 [(.t 27)]), none⟩, ⟨(some 29), (.len (.t 28)), none⟩, ⟨(some 30), (.mov (.c (.int .i64 0))), none⟩]) (.block 0 (.loop (.seq (.ops [⟨(some 31), (.bin .lss (.t 30) (.t 29)), none⟩]) (.seq (.cond (.t 31) .skip (.exit 0)) (.seq (.block 1 (.seq (.ops [⟨(some 32), (.idx 1 (.t 28) (.t 30)), none⟩, ⟨(some 33), (.ld none (.t 32)), none⟩, ⟨(some 8), (.mov (.t 33)), none⟩]) (.tree (.take ⟨(some 35), (.mov (.t 8)), none⟩ (.take ⟨(some 36), (.idx 1 (.t 35) (.c (.int .i64 0))), none⟩ (.take ⟨(some 37), (.ld none (.t 36)), none⟩ (.take ⟨(some 38), (.mov (.t 0)), none⟩ (.take ⟨(some 39), (.call 33 [(.t 38)]), none⟩ (.take ⟨(some 40), (.bin .add (.t 37) (.t 39)), none⟩ (.take ⟨(some 41), (.mov (.t 8)), none⟩ (.take ⟨(some 42), (.idx 1 (.t 41) (.c (.int .i64 1))), none⟩ (.take ⟨(some 43), (.ld none (.t 42)), none⟩ (.two ⟨(some 34), (.mov (.t 6)), none⟩ (.take ⟨(some 44), (.mov (.t 0)), none⟩ (.take ⟨(some 45), (.call 33 [(.t 44)]), none⟩ (.take ⟨(some 46), (.bin .add (.t 43) (.t 45)), none⟩ (.take ⟨(some 47), (.bsl 1 2 [(.int .i64 0)] [(0, (.t 40)), (1, (.t 46))]), none⟩ (.take ⟨(some 48), (.bsl 1 1 [(.slice none 0 0)] [(0, (.t 47))]), none⟩ (.take ⟨(some 49), (.app 1 24 (.t 34) (.t 48)), none⟩ (.take ⟨(some 6), (.mov (.t 49)), none⟩ .done))))))) ⟨(some 44), (.mov (.t 0)), none⟩ (.two ⟨(some 34), (.mov (.t 6)), none⟩ (.take ⟨(some 45), (.call 33 [(.t 44)]), none⟩ (.take ⟨(some 46), (.bin .add (.t 43) (.t 45)), none⟩ (.take ⟨(some 47), (.bsl 1 2 [(.int .i64 0)] [(0, (.t 40)), (1, (.t 46))]), none⟩ (.take ⟨(some 48), (.bsl 1 1 [(.slice none 0 0)] [(0, (.t 47))]), none⟩ (.take ⟨(some 49), (.app 1 24 (.t 34) (.t 48)), none⟩ (.take ⟨(some 6), (.mov (.t 49)), none⟩ .done)))))) ⟨(some 45), (.call 33 [(.t 44)]), none⟩ (.two ⟨(some 34), (.mov (.t 6)), none⟩ (.take ⟨(some 46), (.bin .add (.t 43) (.t 45)), none⟩ (.take ⟨(some 47), (.bsl 1 2 [(.int .i64 0)] [(0, (.t 40)), (1, (.t 46))]), none⟩ (.take ⟨(some 48), (.bsl 1 1 [(.slice none 0 0)] [(0, (.t 47))]), none⟩ (.take ⟨(some 49), (.app 1 24 (.t 34) (.t 48)), none⟩ (.take ⟨(some 6), (.mov (.t 49)), none⟩ .done))))) ⟨(some 46), (.bin .add (.t 43) (.t 45)), none⟩ (.two ⟨(some 34), (.mov (.t 6)), none⟩ (.take ⟨(some 47), (.bsl 1 2 [(.int .i64 0)] [(0, (.t 40)), (1, (.t 46))]), none⟩ (.take ⟨(some 48), (.bsl 1 1 [(.slice none 0 0)] [(0, (.t 47))]), none⟩ (.take ⟨(some 49), (.app 1 24 (.t 34) (.t 48)), none⟩ (.take ⟨(some 6), (.mov (.t 49)), none⟩ .done)))) ⟨(some 47), (.bsl 1 2 [(.int .i64 0)] [(0, (.t 40)), (1, (.t 46))]), none⟩ (.two ⟨(some 34), (.mov (.t 6)), none⟩ (.take ⟨(some 48), (.bsl 1 1 [(.slice none 0 0)] [(0, (.t 47))]), none⟩ (.take ⟨(some 49), (.app 1 24 (.t 34) (.t 48)), none⟩ (.take ⟨(some 6), (.mov (.t 49)), none⟩ .done))) ⟨(some 48), (.bsl 1 1 [(.slice none 0 0)] [(0, (.t 47))]), none⟩ (.take ⟨(some 34), (.mov (.t 6)), none⟩ (.take ⟨(some 49), (.app 1 24 (.t 34) (.t 48)), none⟩ (.take ⟨(some 6), (.mov (.t 49)), none⟩ .done)))))))))))))))))))) (.ops [⟨(some 50), (.bin .add (.t 30) (.c (.int .i64 1))), none⟩, ⟨(some 30), (.mov (.t 50)), none⟩]))))))) (.seq (.ops [⟨(some 51), (.mov (.t 0)), none⟩, ⟨(some 52), (.call 33 [(.t 51)]), none⟩, ⟨(some 53), (.mov (.t 1)), none⟩, ⟨(some 54), (.call 33 [(.t 53)]), none⟩, ⟨(some 55), (.bin .add (.t 52) (.t 54)), none⟩, ⟨(some 56), (.mov (.t 6)), none⟩, ⟨(some 57), (.call 32 [(.t 55), (.t 56)]), none⟩, ⟨(some 4), (.mov (.t 57)), none⟩, ⟨(some 5), (.mov (.c (.bool true))), none⟩]) .ret)))))
theorem cc16 : ccode Tryd.prog (min Tryd.f16.ntmps pbase) (Tryd.f16.body.getD .skip) = some ac16 := by kernel_rfl
def ac17 : ACode := (.seq (.ops [⟨(some 2), (.mov (.c (.string (.mk #[])))), none⟩, ⟨(some 3), (.mov (.c (.bool false))), none⟩]) (.seq (.seq (.ops [⟨(some 4), (.mov (.t 0)), none⟩, ⟨(some 5), (.call 37 [(.t 4)]), none⟩, ⟨(some 6), (.not (.t 5)), none⟩]) (.cond (.t 6) (.seq (.ops [⟨(some 2), (.mov (.c (.string (.mk #[])))), none⟩, ⟨(some 3), (.mov (.c (.bool false))), none⟩]) .ret) .skip)) (.seq (.ops [⟨(some 7), (.mov (.t 0)), none⟩, ⟨(some 8), (.call 28 [(.t 7), (.c (.func (.func 39) #[] #[]))]), none⟩, ⟨(some 2), (.mov (.t 8)), none⟩, ⟨(some 3), (.mov (.c (.bool true))), none⟩]) .ret)))
theorem cc17 : ccode Tryd.prog (min Tryd.f17.ntmps pbase) (Tryd.f17.body.getD .skip) = some ac17 := by kernel_rfl
def ac18 : ACode := (.seq (.ops [⟨(some 2), (.mov (.c (.string (.mk #[])))), none⟩, ⟨(some 3), (.mov (.c (.bool false))), none⟩]) (.seq (.seq (.ops [⟨(some 6), (.mov (.t 0)), none⟩, ⟨(some 7), (.call 40 [(.t 6), (.c (.int .i64 1)), (.c (.int .i64 8))]), none⟩, ⟨(some 8), (.not (.t 7)), none⟩]) (.cond (.t 8) (.seq (.ops [⟨(some 2), (.mov (.c (.string (.mk #[])))), none⟩, ⟨(some 3), (.mov (.c (.bool false))), none⟩]) .ret) .skip)) (.seq (.ops [⟨(some 4), (.nils 1), none⟩]) (.seq (.seq (.ops [⟨(some 5), (.mov (.c (.int .i64 0))), none⟩]) (.block 0 (.loop (.seq (.seq (.ops [⟨(some 9), (.mov (.t 5)), none⟩, ⟨(some 10), (.mov (.t 0)), none⟩, ⟨(some 11), (.bin .lss (.t 9) (.t 10)), none⟩]) (.cond (.t 11) .skip (.exit 0))) (.seq (.block 1 (.ops [⟨(some 14), (.mov (.t 4)), none⟩, ⟨(some 15), (.mov (.t 5)), none⟩, ⟨(some 16), (.mov (.t 5)), none⟩, ⟨(some 17), (.bsl 1 2 [(.int .i64 0)] [(0, (.t 15)), (1, (.t 16))]), none⟩, ⟨(some 18), (.bsl 1 1 [(.slice none 0 0)] [(0, (.t 17))]), none⟩, ⟨(some 19), (.app 1 24 (.t 14) (.t 18)), none⟩, ⟨(some 4), (.mov (.t 19)), none⟩])) (.ops [⟨(some 12), (.mov (.t 5)), none⟩, ⟨(some 13), (.bin .add (.t 12) (.c (.int .i64 1))), none⟩, ⟨(some 5), (.mov (.t 13)), none⟩])))))) (.seq (.ops [⟨(some 20), (.mov (.t 0)), none⟩, ⟨(some 21), (.mov (.t 4)), none⟩, ⟨(some 22), (.call 32 [(.t 20), (.t 21)]), none⟩, ⟨(some 2), (.mov (.t 22)), none⟩, ⟨(some 3), (.mov (.c (.bool true))), none⟩]) .ret)))))
theorem cc18 : ccode Tryd.prog (min Tryd.f18.ntmps pbase) (Tryd.f18.body.getD .skip) = some ac18 := by kernel_rfl
def ac19 : ACode := (.seq (.ops [⟨(some 1), (.box 1 (.t 0)), none⟩, ⟨(some 2), (.mov (.c (.string (.mk #[])))), none⟩, ⟨(some 3), (.mov (.c (.bool false))), none⟩]) (.seq (.seq (.ops [⟨(some 4), (.ld none (.t 1)), none⟩, ⟨(some 5), (.call 37 [(.t 4)]), none⟩, ⟨(some 6), (.not (.t 5)), none⟩]) (.cond (.t 6) (.seq (.ops [⟨(some 2), (.mov (.c (.string (.mk #[])))), none⟩, ⟨(some 3), (.mov (.c (.bool false))), none⟩]) .ret) .skip)) (.seq (.ops [⟨(some 7), (.ld none (.t 1)), none⟩, ⟨(some 8), (.mkf 41 0 [(.t 1)]), none⟩, ⟨(some 9), (.call 28 [(.t 7), (.t 8)]), none⟩, ⟨(some 2), (.mov (.t 9)), none⟩, ⟨(some 3), (.mov (.c (.bool true))), none⟩]) .ret)))
theorem cc19 : ccode Tryd.prog (min Tryd.f19.ntmps pbase) (Tryd.f19.body.getD .skip) = some ac19 := by kernel_rfl
def ac20 : ACode := (.seq (.ops [⟨(some 2), (.mov (.c (.string (.mk #[])))), none⟩, ⟨(some 3), (.mov (.c (.bool false))), none⟩]) (.seq (.seq (.ops [⟨(some 6), (.mov (.t 0)), none⟩, ⟨(some 7), (.call 40 [(.t 6), (.c (.int .i64 1)), (.c (.int .i64 8))]), none⟩, ⟨(some 8), (.not (.t 7)), none⟩]) (.cond (.t 8) (.seq (.ops [⟨(some 2), (.mov (.c (.string (.mk #[])))), none⟩, ⟨(some 3), (.mov (.c (.bool false))), none⟩]) .ret) .skip)) (.seq (.ops [⟨(some 4), (.nils 1), none⟩]) (.seq (.seq (.ops [⟨(some 5), (.mov (.c (.int .i64 0))), none⟩]) (.block 0 (.loop (.seq (.seq (.ops [⟨(some 9), (.mov (.t 5)), none⟩, ⟨(some 10), (.mov (.t 0)), none⟩, ⟨(some 11), (.bin .lss (.t 9) (.t 10)), none⟩]) (.cond (.t 11) .skip (.exit 0))) (.seq (.block 1 (.ops [⟨(some 14), (.mov (.t 4)), none⟩, ⟨(some 15), (.mov (.t 5)), none⟩, ⟨(some 16), (.mov (.t 5)), none⟩, ⟨(some 17), (.bsl 1 2 [(.int .i64 0)] [(0, (.t 15)), (1, (.t 16))]), none⟩, ⟨(some 18), (.mov (.t 5)), none⟩, ⟨(some 19), (.mov (.t 5)), none⟩, ⟨(some 20), (.bin .add (.t 19) (.c (.int .i64 1))), none⟩, ⟨(some 21), (.mov (.t 0)), none⟩, ⟨(some 22), (.bin .rem (.t 20) (.t 21)), none⟩, ⟨(some 23), (.bsl 1 2 [(.int .i64 0)] [(0, (.t 18)), (1, (.t 22))]), none⟩, ⟨(some 24), (.bsl 1 2 [(.slice none 0 0)] [(0, (.t 17)), (1, (.t 23))]), none⟩, ⟨(some 25), (.app 1 24 (.t 14) (.t 24)), none⟩, ⟨(some 4), (.mov (.t 25)), none⟩])) (.ops [⟨(some 12), (.mov (.t 5)), none⟩, ⟨(some 13), (.bin .add (.t 12) (.c (.int .i64 1))), none⟩, ⟨(some 5), (.mov (.t 13)), none⟩])))))) (.seq (.ops [⟨(some 26), (.mov (.t 0)), none⟩, ⟨(some 27), (.mov (.t 4)), none⟩, ⟨(some 28), (.call 32 [(.t 26), (.t 27)]), none⟩, ⟨(some 2), (.mov (.t 28)), none⟩, ⟨(some 3), (.mov (.c (.bool true))), none⟩]) .ret)))))
theorem cc20 : ccode Tryd.prog (min Tryd.f20.ntmps pbase) (Tryd.f20.body.getD .skip) = some ac20 := by kernel_rfl
def ac21 : ACode := (.seq (.ops [⟨(some 6), (.mov (.c (.string (.mk #[])))), none⟩, ⟨(some 7), (.mov (.c (.bool false))), none⟩]) (.seq (.ops [⟨(some 8), (.mov (.t 0)), none⟩, ⟨(some 9), (.mov (.t 1)), none⟩, ⟨(some 10), (.mov (.t 2)), none⟩, ⟨(some 11), (.pu (.bld [(.int .i64 0), (.int .i64 0)] [(0, 1), (1, 1)]) [(.t 9), (.t 10)]), none⟩, ⟨(some 12), (.call 42 [(.t 8), (.t 11), (.c (.bool true))]), none⟩, ⟨(some 13), (.ext (.t 12) 0), none⟩, ⟨(some 14), (.ext (.t 12) 1), none⟩, ⟨(some 6), (.mov (.t 13)), none⟩, ⟨(some 7), (.mov (.t 14)), none⟩]) .ret))
theorem cc21 : ccode Tryd.prog (min Tryd.f21.ntmps pbase) (Tryd.f21.body.getD .skip) = some ac21 := by kernel_rfl
def ac22 : ACode := (.seq (.ops [⟨(some 6), (.mov (.c (.string (.mk #[])))), none⟩, ⟨(some 7), (.mov (.c (.bool false))), none⟩]) (.seq (.seq (.ops [⟨(some 8), (.mov (.t 0)), none⟩, ⟨(some 9), (.mov (.t 1)), none⟩, ⟨(some 10), (.mov (.t 2)), none⟩, ⟨(some 11), (.call 43 [(.t 8), (.t 9), (.t 10)]), none⟩, ⟨(some 12), (.not (.t 11)), none⟩, ⟨(some 13), (.mov (.t 12)), none⟩, ⟨(some 14), (.mov (.t 0)), (some (13, false))⟩, ⟨(some 15), (.mov (.t 1)), (some (13, false))⟩, ⟨(some 16), (.mov (.t 2)), (some (13, false))⟩, ⟨(some 17), (.call 44 [(.t 14), (.t 15), (.t 16)]), (some (13, false))⟩, ⟨(some 18), (.pick (.t 13) (.c (.bool true)) (.t 17)), none⟩]) (.cond (.t 18) (.seq (.ops [⟨(some 6), (.mov (.c (.string (.mk #[])))), none⟩, ⟨(some 7), (.mov (.c (.bool false))), none⟩]) .ret) .skip)) (.seq (.ops [⟨(some 19), (.mov (.t 0)), none⟩, ⟨(some 20), (.mov (.t 1)), none⟩, ⟨(some 21), (.mov (.t 2)), none⟩, ⟨(some 22), (.call 45 [(.t 19), (.t 20), (.t 21), (.c (.string (.mk #[35])))]), none⟩, ⟨(some 6), (.mov (.t 22)), none⟩, ⟨(some 7), (.mov (.c (.bool true))), none⟩]) .ret)))
theorem cc22 : ccode Tryd.prog (min Tryd.f22.ntmps pbase) (Tryd.f22.body.getD .skip) = some ac22 := by kernel_rfl
def ac23 : ACode := (.seq (.ops [⟨(some 6), (.mov (.c (.string (.mk #[])))), none⟩, ⟨(some 7), (.mov (.c (.bool false))), none⟩]) (.seq (.ops [⟨(some 8), (.mov (.t 0)), none⟩, ⟨(some 9), (.mov (.t 1)), none⟩, ⟨(some 10), (.mov (.t 2)), none⟩, ⟨(some 11), (.pu (.bld [(.int .i64 0), (.int .i64 0)] [(0, 1), (1, 1)]) [(.t 9), (.t 10)]), none⟩, ⟨(some 12), (.call 42 [(.t 8), (.t 11), (.c (.bool false))]), none⟩, ⟨(some 13), (.ext (.t 12) 0), none⟩, ⟨(some 14), (.ext (.t 12) 1), none⟩, ⟨(some 6), (.mov (.t 13)), none⟩, ⟨(some 7), (.mov (.t 14)), none⟩]) .ret))
theorem cc23 : ccode Tryd.prog (min Tryd.f23.ntmps pbase) (Tryd.f23.body.getD .skip) = some ac23 := by kernel_rfl
def ac24 : ACode := (.seq (.ops [⟨(some 6), (.mov (.c (.string (.mk #[])))), none⟩, ⟨(some 7), (.mov (.c (.bool false))), none⟩]) (.seq (.seq (.ops [⟨(some 8), (.mov (.t 0)), none⟩, ⟨(some 9), (.mov (.t 1)), none⟩, ⟨(some 10), (.mov (.t 2)), none⟩, ⟨(some 11), (.call 43 [(.t 8), (.t 9), (.t 10)]), none⟩, ⟨(some 12), (.not (.t 11)), none⟩, ⟨(some 13), (.mov (.t 12)), none⟩, ⟨(some 14), (.mov (.t 0)), (some (13, false))⟩, ⟨(some 15), (.mov (.t 1)), (some (13, false))⟩, ⟨(some 16), (.mov (.t 2)), (some (13, false))⟩, ⟨(some 17), (.call 44 [(.t 14), (.t 15), (.t 16)]), (some (13, false))⟩, ⟨(some 18), (.not (.t 17)), (some (13, false))⟩, ⟨(some 19), (.pick (.t 13) (.c (.bool true)) (.t 18)), none⟩]) (.cond (.t 19) (.seq (.ops [⟨(some 6), (.mov (.c (.string (.mk #[])))), none⟩, ⟨(some 7), (.mov (.c (.bool false))), none⟩]) .ret) .skip)) (.seq (.ops [⟨(some 20), (.mov (.t 0)), none⟩, ⟨(some 21), (.mov (.t 1)), none⟩, ⟨(some 22), (.mov (.t 2)), none⟩, ⟨(some 23), (.call 45 [(.t 20), (.t 21), (.t 22), (.c (.string (.mk #[46])))]), none⟩, ⟨(some 6), (.mov (.t 23)), none⟩, ⟨(some 7), (.mov (.c (.bool true))), none⟩]) .ret)))
theorem cc24 : ccode Tryd.prog (min Tryd.f24.ntmps pbase) (Tryd.f24.body.getD .skip) = some ac24 := by kernel_rfl
def ac25 : ACode := (.seq (.ops [⟨(some 2), (.mov (.c (.int .i64 0))), none⟩, ⟨(some 3), (.mov (.c (.bool false))), none⟩]) (.seq (.seq (.ops [⟨(some 4), (.mov (.t 0)), none⟩, ⟨(some 5), (.call 46 [(.t 4)]), none⟩, ⟨(some 6), (.not (.t 5)), none⟩]) (.cond (.t 6) (.seq (.ops [⟨(some 2), (.mov (.c (.int .i64 0))), none⟩, ⟨(some 3), (.mov (.c (.bool false))), none⟩]) .ret) .skip)) (.seq (.ops [⟨(some 7), (.mov (.t 0)), none⟩, ⟨(some 8), (.mov (.t 0)), none⟩, ⟨(some 9), (.call 47 [(.t 7), (.t 8)]), none⟩, ⟨(some 2), (.mov (.t 9)), none⟩, ⟨(some 3), (.mov (.c (.bool true))), none⟩]) .ret)))
theorem cc25 : ccode Tryd.prog (min Tryd.f25.ntmps pbase) (Tryd.f25.body.getD .skip) = some ac25 := by kernel_rfl
def ac26 : ACode := (.seq (.ops [⟨(some 2), (.mov (.c (.int .i64 0))), none⟩, ⟨(some 3), (.mov (.c (.bool false))), none⟩]) (.seq (.ops [⟨(some 7), (.mov (.t 0)), none⟩, ⟨(some 8), (.call 27 [(.t 7)]), none⟩, ⟨(some 6), (.mov (.t 8)), none⟩, ⟨(some 9), (.ext (.t 6) 0), none⟩, ⟨(some 10), (.ext (.t 6) 1), none⟩, ⟨(some 4), (.alloc [(.int .i64 0), (.map none)]), none⟩, ⟨none, (.st 2 (.t 4) (.t 9)), none⟩, ⟨(some 5), (.mov (.t 10)), none⟩]) (.seq (.seq (.ops [⟨(some 11), (.mov (.t 5)), none⟩, ⟨(some 12), (.not (.t 11)), none⟩]) (.cond (.t 12) (.seq (.ops [⟨(some 2), (.mov (.c (.int .i64 0))), none⟩, ⟨(some 3), (.mov (.c (.bool false))), none⟩]) .ret) .skip)) (.seq (.ops [⟨(some 13), (.ld (some 2) (.t 4)), none⟩, ⟨(some 14), (.call 36 [(.t 13)]), none⟩, ⟨(some 15), (.idx 1 (.t 14) (.c (.int .i64 0))), none⟩, ⟨(some 16), (.ld none (.t 15)), none⟩, ⟨(some 2), (.mov (.t 16)), none⟩, ⟨(some 3), (.mov (.c (.bool true))), none⟩]) .ret))))
theorem cc26 : ccode Tryd.prog (min Tryd.f26.ntmps pbase) (Tryd.f26.body.getD .skip) = some ac26 := by kernel_rfl
def ac27 : ACode := (.seq (.ops [⟨(some 2), (.alloc [(.int .i64 0), (.map none)]), none⟩, ⟨(some 3), (.mov (.c (.bool false))), none⟩]) (.seq (.ops [⟨(some 9), (.mov (.t 0)), none⟩, ⟨(some 10), (.call 48 [(.t 9), (.c (.string (.mk #[47]))), (.c (.int .i64 9))]), none⟩, ⟨(some 4), (.mov (.t 10)), none⟩]) (.seq (.seq (.ops [⟨(some 11), (.mov (.t 4)), none⟩, ⟨(some 12), (.len (.t 11)), none⟩, ⟨(some 13), (.call 37 [(.t 12)]), none⟩, ⟨(some 14), (.not (.t 13)), none⟩]) (.cond (.t 14) (.seq (.ops [⟨(some 15), (.pu (.bld [(.int .i64 0), (.map none)] []) []), none⟩, ⟨none, (.st 2 (.t 2) (.t 15)), none⟩, ⟨(some 3), (.mov (.c (.bool false))), none⟩]) .ret) .skip)) (.seq (.ops [⟨(some 16), (.mov (.t 4)), none⟩, ⟨(some 17), (.len (.t 16)), none⟩, ⟨(some 18), .mmk, none⟩, ⟨(some 19), (.pu (.bld [(.int .i64 0), (.map none)] [(0, 1), (1, 1)]) [(.t 17), (.t 18)]), none⟩, ⟨(some 5), (.alloc [(.int .i64 0), (.map none)]), none⟩, ⟨none, (.st 2 (.t 5) (.t 19)), none⟩]) (.seq (.seq (.ops [⟨(some 20), (.mov (.t 4)), none⟩, ⟨(some 21), (.len (.t 20)), none⟩, ⟨(some 22), (.mov (.c (.int .i64 0))), none⟩]) (.block 0 (.loop (.seq (.ops [⟨(some 23), (.bin .lss (.t 22) (.t 21)), none⟩]) (.seq (.cond (.t 23) .skip (.exit 0)) (.seq (.block 1 (.seq (.ops [⟨(some 24), (.mov (.t 22)), none⟩, ⟨(some 25), (.idx 1 (.t 20) (.t 22)), none⟩, ⟨(some 26), (.ld none (.t 25)), none⟩, ⟨(some 6), (.mov (.t 24)), none⟩, ⟨(some 7), (.mov (.t 26)), none⟩]) (.seq (.seq (.ops [⟨(some 27), (.mov (.t 7)), none⟩, ⟨(some 28), (.slen (.t 27)), none⟩, ⟨(some 29), (.fa 0 (.t 5)), none⟩, ⟨(some 30), (.ld none (.t 29)), none⟩, ⟨(some 31), (.bin .neq (.t 28) (.t 30)), none⟩]) (.cond (.t 31) (.seq (.ops [⟨(some 32), (.pu (.bld [(.int .i64 0), (.map none)] []) []), none⟩, ⟨none, (.st 2 (.t 2) (.t 32)), none⟩, ⟨(some 3), (.mov (.c (.bool false))), none⟩]) .ret) .skip)) (.seq (.ops [⟨(some 33), (.mov (.t 7)), none⟩, ⟨(some 34), (.slen (.t 33)), none⟩, ⟨(some 35), (.mov (.c (.int .i64 0))), none⟩]) (.block 2 (.loop (.seq (.ops [⟨(some 36), (.bin .lss (.t 35) (.t 34)), none⟩]) (.seq (.cond (.t 36) .skip (.exit 2)) (.seq (.block 3 (.seq (.ops [⟨(some 37), (.mov (.t 35)), none⟩, ⟨(some 8), (.mov (.t 37)), none⟩]) (.seq (.ops [⟨(some 38), (.mov (.t 7)), none⟩, ⟨(some 39), (.mov (.t 8)), none⟩, ⟨(some 40), (.pu .six [(.t 38), (.t 39)]), none⟩]) (.block 4 (.seq (.ops [⟨(some 43), (.bin .eql (.t 40) (.c (.int .u8 46))), none⟩, ⟨(some 42), (.mov (.t 43)), none⟩]) (.cond (.t 42) .skip (.seq (.ops [⟨(some 45), (.bin .eql (.t 40) (.c (.int .u8 35))), none⟩, ⟨(some 44), (.mov (.t 45)), none⟩]) (.cond (.t 44) (.ops [⟨(some 46), (.fa 1 (.t 5)), none⟩, ⟨(some 47), (.ld none (.t 46)), none⟩, ⟨(some 48), (.mov (.t 6)), none⟩, ⟨(some 49), (.mov (.t 8)), none⟩, ⟨(some 50), (.pu (.bld [(.int .i64 0), (.int .i64 0)] [(0, 1), (1, 1)]) [(.t 48), (.t 49)]), none⟩, ⟨none, (.mputk 46 (.t 47) (.t 50) (.c (.bool true))), none⟩]) (.seq (.ops [⟨(some 41), (.pu (.bld [(.int .i64 0), (.map none)] []) []), none⟩, ⟨none, (.st 2 (.t 2) (.t 41)), none⟩, ⟨(some 3), (.mov (.c (.bool false))), none⟩]) .ret))))))))) (.ops [⟨(some 51), (.bin .add (.t 35) (.c (.int .i64 1))), none⟩, ⟨(some 35), (.mov (.t 51)), none⟩])))))))))) (.ops [⟨(some 52), (.bin .add (.t 22) (.c (.int .i64 1))), none⟩, ⟨(some 22), (.mov (.t 52)), none⟩]))))))) (.seq (.ops [⟨(some 53), (.ld (some 2) (.t 5)), none⟩, ⟨none, (.st 2 (.t 2) (.t 53)), none⟩, ⟨(some 3), (.mov (.c (.bool true))), none⟩]) .ret))))))
theorem cc27 : ccode Tryd.prog (min Tryd.f27.ntmps pbase) (Tryd.f27.body.getD .skip) = some ac27 := by kernel_rfl
def ac28 : ACode := (.seq (.ops [⟨(some 4), (.mov (.c (.string (.mk #[])))), none⟩]) (.seq (.ops [⟨(some 5), (.nils 1), none⟩]) (.seq (.seq (.ops [⟨(some 8), (.mov (.t 0)), none⟩, ⟨(some 9), (.mov (.c (.int .i64 0))), none⟩]) (.block 0 (.loop (.seq (.ops [⟨(some 10), (.bin .lss (.t 9) (.t 8)), none⟩]) (.seq (.cond (.t 10) .skip (.exit 0)) (.seq (.block 1 (.seq (.ops [⟨(some 11), (.mov (.t 9)), none⟩, ⟨(some 6), (.mov (.t 11)), none⟩]) (.seq (.seq (.ops [⟨(some 12), (.mov (.t 6)), none⟩, ⟨(some 13), (.bin .gtr (.t 12) (.c (.int .i64 0))), none⟩]) (.cond (.t 13) (.ops [⟨(some 14), (.mov (.t 5)), none⟩, ⟨(some 15), (.bsl 1 1 [(.int .u8 0)] [(0, (.c (.int .u8 47)))]), none⟩, ⟨(some 16), (.app 1 1 (.t 14) (.t 15)), none⟩, ⟨(some 5), (.mov (.t 16)), none⟩]) .skip)) (.seq (.ops [⟨(some 17), (.mov (.t 0)), none⟩, ⟨(some 18), (.mov (.c (.int .i64 0))), none⟩]) (.block 2 (.loop (.seq (.ops [⟨(some 19), (.bin .lss (.t 18) (.t 17)), none⟩]) (.seq (.cond (.t 19) .skip (.exit 2)) (.seq (.block 3 (.seq (.ops [⟨(some 20), (.mov (.t 18)), none⟩, ⟨(some 7), (.mov (.t 20)), none⟩]) (.seq (.ops [⟨(some 21), (.mov (.t 1)), none⟩, ⟨(some 22), (.mov (.t 6)), none⟩, ⟨(some 23), (.mov (.t 7)), none⟩, ⟨(some 24), (.pu (.bld [(.int .i64 0), (.int .i64 0)] [(0, 1), (1, 1)]) [(.t 22), (.t 23)]), none⟩, ⟨(some 25), (.callv (.t 21) [(.t 24)]), none⟩]) (.cond (.t 25) (.ops [⟨(some 26), (.mov (.t 5)), none⟩, ⟨(some 27), (.bsl 1 1 [(.int .u8 0)] [(0, (.c (.int .u8 35)))]), none⟩, ⟨(some 28), (.app 1 1 (.t 26) (.t 27)), none⟩, ⟨(some 5), (.mov (.t 28)), none⟩]) (.ops [⟨(some 29), (.mov (.t 5)), none⟩, ⟨(some 30), (.bsl 1 1 [(.int .u8 0)] [(0, (.c (.int .u8 46)))]), none⟩, ⟨(some 31), (.app 1 1 (.t 29) (.t 30)), none⟩, ⟨(some 5), (.mov (.t 31)), none⟩]))))) (.ops [⟨(some 32), (.bin .add (.t 18) (.c (.int .i64 1))), none⟩, ⟨(some 18), (.mov (.t 32)), none⟩])))))))))) (.ops [⟨(some 33), (.bin .add (.t 9) (.c (.int .i64 1))), none⟩, ⟨(some 9), (.mov (.t 33)), none⟩]))))))) (.seq (.ops [⟨(some 34), (.mov (.t 5)), none⟩, ⟨(some 35), (.bts (.t 34)), none⟩, ⟨(some 4), (.mov (.t 35)), none⟩]) .ret))))
theorem cc28 : ccode Tryd.prog (min Tryd.f28.ntmps pbase) (Tryd.f28.body.getD .skip) = some ac28 := by kernel_rfl
def ac29 : ACode := (.seq (.ops [⟨(some 2), (.box 2 (.t 0)), none⟩, ⟨(some 3), (.mov (.c (.bool false))), none⟩]) (.seq (.ops [⟨(some 4), (.fa 1 (.t 1)), none⟩, ⟨(some 5), (.ld none (.t 4)), none⟩, ⟨(some 6), (.fa 1 (.t 2)), none⟩, ⟨(some 7), (.ld none (.t 6)), none⟩, ⟨(some 8), (.fa 0 (.t 2)), none⟩, ⟨(some 9), (.ld none (.t 8)), none⟩, ⟨(some 10), (.pu (.bld [(.int .i64 0), (.int .i64 0)] [(0, 1), (1, 1)]) [(.t 7), (.t 9)]), none⟩, ⟨(some 11), (.mgetk 46 (.bool false) false (.t 5) (.t 10)), none⟩, ⟨(some 3), (.mov (.t 11)), none⟩]) .ret))
theorem cc29 : ccode Tryd.prog (min Tryd.f29.ntmps pbase) (Tryd.f29.body.getD .skip) = some ac29 := by kernel_rfl
def ac30 : ACode := (.seq (.ops [⟨(some 2), (.mov (.c (.bool false))), none⟩]) (.seq (.seq (.ops [⟨(some 7), (.mov (.t 0)), none⟩, ⟨(some 8), (.slen (.t 7)), none⟩, ⟨(some 9), (.bin .gtr (.t 8) (.c (.int .i64 72))), none⟩]) (.cond (.t 9) (.seq (.ops [⟨(some 2), (.mov (.c (.bool false))), none⟩]) .ret) .skip)) (.seq (.ops [⟨(some 10), (.mov (.t 0)), none⟩, ⟨(some 11), (.call 49 [(.t 10), (.c (.int .u8 47))]), none⟩, ⟨(some 3), (.mov (.t 11)), none⟩]) (.seq (.seq (.ops [⟨(some 12), (.mov (.t 3)), none⟩, ⟨(some 13), (.len (.t 12)), none⟩, ⟨(some 14), (.call 40 [(.t 13), (.c (.int .i64 1)), (.c (.int .i64 8))]), none⟩, ⟨(some 15), (.not (.t 14)), none⟩]) (.cond (.t 15) (.seq (.ops [⟨(some 2), (.mov (.c (.bool false))), none⟩]) .ret) .skip)) (.seq (.seq (.ops [⟨(some 16), (.mov (.t 3)), none⟩, ⟨(some 17), (.len (.t 16)), none⟩, ⟨(some 18), (.mov (.c (.int .i64 0))), none⟩]) (.block 0 (.loop (.seq (.ops [⟨(some 19), (.bin .lss (.t 18) (.t 17)), none⟩]) (.seq (.cond (.t 19) .skip (.exit 0)) (.seq (.block 1 (.seq (.ops [⟨(some 20), (.idx 1 (.t 16) (.t 18)), none⟩, ⟨(some 21), (.ld none (.t 20)), none⟩, ⟨(some 5), (.mov (.t 21)), none⟩]) (.seq (.seq (.ops [⟨(some 22), (.mov (.t 5)), none⟩, ⟨(some 23), (.slen (.t 22)), none⟩, ⟨(some 24), (.mov (.t 3)), none⟩, ⟨(some 25), (.len (.t 24)), none⟩, ⟨(some 26), (.bin .neq (.t 23) (.t 25)), none⟩]) (.cond (.t 26) (.seq (.ops [⟨(some 2), (.mov (.c (.bool false))), none⟩]) .ret) .skip)) (.seq (.ops [⟨(some 6), (.mov (.c (.int .i64 0))), none⟩]) (.block 2 (.loop (.seq (.seq (.ops [⟨(some 27), (.mov (.t 6)), none⟩, ⟨(some 28), (.mov (.t 5)), none⟩, ⟨(some 29), (.slen (.t 28)), none⟩, ⟨(some 30), (.bin .lss (.t 27) (.t 29)), none⟩]) (.cond (.t 30) .skip (.exit 2))) (.seq (.block 3 (.seq (.ops [⟨(some 33), (.mov (.t 5)), none⟩, ⟨(some 34), (.mov (.t 6)), none⟩, ⟨(some 35), (.pu .six [(.t 33), (.t 34)]), none⟩, ⟨(some 36), (.bin .neq (.t 35) (.c (.int .u8 46))), none⟩, ⟨(some 37), (.mov (.t 36)), none⟩, ⟨(some 38), (.mov (.t 5)), (some (37, true))⟩, ⟨(some 39), (.mov (.t 6)), (some (37, true))⟩, ⟨(some 40), (.pu .six [(.t 38), (.t 39)]), (some (37, true))⟩, ⟨(some 41), (.bin .neq (.t 40) (.c (.int .u8 35))), (some (37, true))⟩, ⟨(some 42), (.pick (.t 37) (.t 41) (.c (.bool false))), none⟩]) (.cond (.t 42) (.seq (.ops [⟨(some 2), (.mov (.c (.bool false))), none⟩]) .ret) .skip))) (.ops [⟨(some 31), (.mov (.t 6)), none⟩, ⟨(some 32), (.bin .add (.t 31) (.c (.int .i64 1))), none⟩, ⟨(some 6), (.mov (.t 32)), none⟩]))))))))) (.ops [⟨(some 43), (.bin .add (.t 18) (.c (.int .i64 1))), none⟩, ⟨(some 18), (.mov (.t 43)), none⟩]))))))) (.seq (.ops [⟨(some 2), (.mov (.c (.bool true))), none⟩]) .ret))))))
theorem cc30 : ccode Tryd.prog (min Tryd.f30.ntmps pbase) (Tryd.f30.body.getD .skip) = some ac30 := by kernel_rfl
def ac31 : ACode := (.seq (.ops [⟨(some 2), (.nils 1), none⟩]) (.seq (.ops [⟨(some 3), (.nils 1), none⟩]) (.seq (.seq (.ops [⟨(some 4), (.mov (.c (.int .i64 0))), none⟩]) (.block 0 (.loop (.seq (.seq (.ops [⟨(some 6), (.mov (.t 4)), none⟩, ⟨(some 7), (.mov (.t 0)), none⟩, ⟨(some 8), (.call 33 [(.t 7)]), none⟩, ⟨(some 9), (.bin .lss (.t 6) (.t 8)), none⟩]) (.cond (.t 9) .skip (.exit 0))) (.seq (.block 1 (.seq (.ops [⟨(some 5), (.mov (.c (.int .i64 0))), none⟩]) (.block 2 (.loop (.seq (.seq (.ops [⟨(some 12), (.mov (.t 5)), none⟩, ⟨(some 13), (.mov (.t 0)), none⟩, ⟨(some 14), (.call 33 [(.t 13)]), none⟩, ⟨(some 15), (.bin .lss (.t 12) (.t 14)), none⟩]) (.cond (.t 15) .skip (.exit 2))) (.seq (.block 3 (.seq (.ops [⟨(some 18), (.mov (.t 0)), none⟩, ⟨(some 19), (.mov (.t 4)), none⟩, ⟨(some 20), (.mov (.t 5)), none⟩, ⟨(some 21), (.call 44 [(.t 18), (.t 19), (.t 20)]), none⟩]) (.cond (.t 21) (.ops [⟨(some 22), (.mov (.t 3)), none⟩, ⟨(some 23), (.mov (.t 4)), none⟩, ⟨(some 24), (.mov (.t 5)), none⟩, ⟨(some 25), (.bsl 1 2 [(.int .i64 0)] [(0, (.t 23)), (1, (.t 24))]), none⟩, ⟨(some 26), (.bsl 1 1 [(.slice none 0 0)] [(0, (.t 25))]), none⟩, ⟨(some 27), (.app 1 24 (.t 22) (.t 26)), none⟩, ⟨(some 3), (.mov (.t 27)), none⟩]) .skip))) (.ops [⟨(some 16), (.mov (.t 5)), none⟩, ⟨(some 17), (.bin .add (.t 16) (.c (.int .i64 1))), none⟩, ⟨(some 5), (.mov (.t 17)), none⟩]))))))) (.ops [⟨(some 10), (.mov (.t 4)), none⟩, ⟨(some 11), (.bin .add (.t 10) (.c (.int .i64 1))), none⟩, ⟨(some 4), (.mov (.t 11)), none⟩])))))) (.seq (.ops [⟨(some 28), (.mov (.t 3)), none⟩, ⟨(some 2), (.mov (.t 28)), none⟩]) .ret))))
theorem cc31 : ccode Tryd.prog (min Tryd.f31.ntmps pbase) (Tryd.f31.body.getD .skip) = some ac31 := by kernel_rfl
def ac32 : ACode := (.seq (.ops [⟨(some 4), (.mov (.c (.string (.mk #[])))), none⟩]) (.seq (.ops [⟨(some 5), (.mov (.c (.string (.mk #[])))), none⟩]) (.seq (.seq (.ops [⟨(some 6), (.mov (.c (.int .i64 0))), none⟩]) (.block 0 (.loop (.seq (.seq (.ops [⟨(some 11), (.mov (.t 6)), none⟩, ⟨(some 12), (.mov (.t 0)), none⟩, ⟨(some 13), (.bin .lss (.t 11) (.t 12)), none⟩]) (.cond (.t 13) .skip (.exit 0))) (.seq (.block 1 (.seq (.seq (.ops [⟨(some 16), (.mov (.t 6)), none⟩, ⟨(some 17), (.bin .gtr (.t 16) (.c (.int .i64 0))), none⟩]) (.cond (.t 17) (.ops [⟨(some 18), (.mov (.t 5)), none⟩, ⟨(some 19), (.bin .add (.t 18) (.c (.string (.mk #[47])))), none⟩, ⟨(some 5), (.mov (.t 19)), none⟩]) .skip)) (.seq (.ops [⟨(some 7), (.mov (.c (.int .i64 0))), none⟩]) (.block 2 (.loop (.seq (.seq (.ops [⟨(some 20), (.mov (.t 7)), none⟩, ⟨(some 21), (.mov (.t 0)), none⟩, ⟨(some 22), (.bin .lss (.t 20) (.t 21)), none⟩]) (.cond (.t 22) .skip (.exit 2))) (.seq (.block 3 (.seq (.ops [⟨(some 8), (.mov (.c (.string (.mk #[46])))), none⟩]) (.seq (.seq (.ops [⟨(some 25), (.mov (.t 1)), none⟩, ⟨(some 26), (.len (.t 25)), none⟩, ⟨(some 27), (.mov (.c (.int .i64 0))), none⟩]) (.block 4 (.loop (.seq (.ops [⟨(some 28), (.bin .lss (.t 27) (.t 26)), none⟩]) (.seq (.cond (.t 28) .skip (.exit 4)) (.seq (.block 5 (.seq (.ops [⟨(some 29), (.idx 1 (.t 25) (.t 27)), none⟩, ⟨(some 30), (.ld none (.t 29)), none⟩, ⟨(some 10), (.mov (.t 30)), none⟩]) (.seq (.ops [⟨(some 31), (.mov (.t 10)), none⟩, ⟨(some 32), (.idx 1 (.t 31) (.c (.int .i64 0))), none⟩, ⟨(some 33), (.ld none (.t 32)), none⟩, ⟨(some 34), (.mov (.t 6)), none⟩, ⟨(some 35), (.bin .eql (.t 33) (.t 34)), none⟩, ⟨(some 36), (.mov (.t 35)), none⟩, ⟨(some 37), (.mov (.t 10)), (some (36, true))⟩, ⟨(some 38), (.idx 1 (.t 37) (.c (.int .i64 1))), (some (36, true))⟩, ⟨(some 39), (.ld none (.t 38)), (some (36, true))⟩, ⟨(some 40), (.mov (.t 7)), (some (36, true))⟩, ⟨(some 41), (.bin .eql (.t 39) (.t 40)), (some (36, true))⟩, ⟨(some 42), (.pick (.t 36) (.t 41) (.c (.bool false))), none⟩]) (.cond (.t 42) (.ops [⟨(some 8), (.mov (.c (.string (.mk #[35])))), none⟩]) .skip)))) (.ops [⟨(some 43), (.bin .add (.t 27) (.c (.int .i64 1))), none⟩, ⟨(some 27), (.mov (.t 43)), none⟩]))))))) (.ops [⟨(some 44), (.mov (.t 5)), none⟩, ⟨(some 45), (.mov (.t 8)), none⟩, ⟨(some 46), (.bin .add (.t 44) (.t 45)), none⟩, ⟨(some 5), (.mov (.t 46)), none⟩])))) (.ops [⟨(some 23), (.mov (.t 7)), none⟩, ⟨(some 24), (.bin .add (.t 23) (.c (.int .i64 1))), none⟩, ⟨(some 7), (.mov (.t 24)), none⟩])))))))) (.ops [⟨(some 14), (.mov (.t 6)), none⟩, ⟨(some 15), (.bin .add (.t 14) (.c (.int .i64 1))), none⟩, ⟨(some 6), (.mov (.t 15)), none⟩])))))) (.seq (.ops [⟨(some 47), (.mov (.t 5)), none⟩, ⟨(some 4), (.mov (.t 47)), none⟩]) .ret))))
theorem cc32 : ccode Tryd.prog (min Tryd.f32.ntmps pbase) (Tryd.f32.body.getD .skip) = some ac32 := by kernel_rfl
def ac33 : ACode := (.seq (.ops [⟨(some 2), (.mov (.c (.int .i64 0))), none⟩]) (.seq (.ops [⟨(some 3), (.mov (.t 0)), none⟩, ⟨(some 4), (.call 49 [(.t 3), (.c (.int .u8 47))]), none⟩, ⟨(some 5), (.len (.t 4)), none⟩, ⟨(some 2), (.mov (.t 5)), none⟩]) .ret))
theorem cc33 : ccode Tryd.prog (min Tryd.f33.ntmps pbase) (Tryd.f33.body.getD .skip) = some ac33 := by kernel_rfl
def ac34 : ACode := (.seq (.ops [⟨(some 2), (.box 2 (.t 0)), none⟩, ⟨(some 3), (.mov (.c (.bool false))), none⟩]) (.seq (.ops [⟨(some 4), (.fa 1 (.t 1)), none⟩, ⟨(some 5), (.ld none (.t 4)), none⟩, ⟨(some 6), (.ld (some 2) (.t 2)), none⟩, ⟨(some 7), (.mgetk 46 (.bool false) false (.t 5) (.t 6)), none⟩, ⟨(some 8), (.not (.t 7)), none⟩, ⟨(some 3), (.mov (.t 8)), none⟩]) .ret))
theorem cc34 : ccode Tryd.prog (min Tryd.f34.ntmps pbase) (Tryd.f34.body.getD .skip) = some ac34 := by kernel_rfl
def ac35 : ACode := (.seq (.ops [⟨(some 1), (.box 2 (.t 0)), none⟩, ⟨(some 2), (.nils 1), none⟩]) (.scope (.seq (.ops [⟨(some 14), .mmk, none⟩, ⟨none, (.mput .u16 (.t 14) (.c (.int .u16 0)) (.c (.int .i64 1))), none⟩, ⟨(some 15), (.mov (.t 14)), none⟩, ⟨(some 3), (.mov (.t 15)), none⟩]) (.seq (.ops [⟨(some 16), (.fa 1 (.t 1)), none⟩, ⟨(some 17), (.ld none (.t 16)), none⟩, ⟨(some 18), (.call 50 [(.t 17)]), none⟩, ⟨(some 4), (.mov (.t 18)), none⟩]) (.seq (.label 0) (.seq (.seq (.ops [⟨(some 19), (.mov (.t 4)), none⟩, ⟨(some 20), (.mrg (.t 19)), none⟩]) (.block 0 (.loop (.seq (.ops [⟨(some 21), (.mnx (.t 20)), none⟩, ⟨(some 22), (.ext (.t 21) 0), none⟩]) (.seq (.cond (.t 22) .skip (.exit 0)) (.block 1 (.seq (.ops [⟨(some 23), (.ment (.t 20)), none⟩, ⟨(some 24), (.ext (.t 23) 0), none⟩, ⟨(some 5), (.alloc [(.int .i64 0), (.int .i64 0)]), none⟩, ⟨none, (.st 2 (.t 5) (.t 24)), none⟩]) (.seq (.ops [⟨(some 25), (.mov (.t 3)), none⟩, ⟨(some 26), (.call 51 [(.t 25)]), none⟩, ⟨(some 6), (.mov (.t 26)), none⟩]) (.seq (.seq (.ops [⟨(some 27), (.fa 0 (.t 1)), none⟩, ⟨(some 28), (.ld none (.t 27)), none⟩, ⟨(some 29), (.mov (.c (.int .i64 0))), none⟩]) (.block 2 (.loop (.seq (.ops [⟨(some 30), (.bin .lss (.t 29) (.t 28)), none⟩]) (.seq (.cond (.t 30) .skip (.exit 2)) (.seq (.block 3 (.seq (.ops [⟨(some 31), (.mov (.t 29)), none⟩, ⟨(some 7), (.mov (.t 31)), none⟩]) (.seq (.ops [⟨(some 32), (.fa 0 (.t 5)), none⟩, ⟨(some 33), (.ld none (.t 32)), none⟩, ⟨(some 34), (.mov (.t 7)), none⟩, ⟨(some 35), (.pu (.bld [(.int .i64 0), (.int .i64 0)] [(0, 1), (1, 1)]) [(.t 33), (.t 34)]), none⟩, ⟨(some 8), (.alloc [(.int .i64 0), (.int .i64 0)]), none⟩, ⟨none, (.st 2 (.t 8) (.t 35)), none⟩]) (.seq (.seq (.ops [⟨(some 36), (.mov (.t 4)), none⟩, ⟨(some 37), (.ld (some 2) (.t 8)), none⟩, ⟨(some 38), (.mgetk 46 (.bool false) false (.t 36) (.t 37)), none⟩, ⟨(some 39), (.not (.t 38)), none⟩]) (.cond (.t 39) (.exit 3) .skip)) (.seq (.ops [⟨(some 40), (.mov (.t 4)), none⟩, ⟨(some 41), (.ld (some 2) (.t 8)), none⟩, ⟨none, (.mdel 46 (.t 40) (.t 41)), none⟩]) (.seq (.ops [⟨(some 42), (.mov (.t 3)), none⟩, ⟨(some 43), (.mrg (.t 42)), none⟩]) (.block 4 (.loop (.seq (.ops [⟨(some 44), (.mnx (.t 43)), none⟩, ⟨(some 45), (.ext (.t 44) 0), none⟩]) (.seq (.cond (.t 45) .skip (.exit 4)) (.block 5 (.seq (.ops [⟨(some 46), (.ment (.t 43)), none⟩, ⟨(some 47), (.ext (.t 46) 0), none⟩, ⟨(some 48), (.ext (.t 46) 1), none⟩, ⟨(some 9), (.mov (.t 47)), none⟩, ⟨(some 10), (.mov (.t 48)), none⟩]) (.seq (.ops [⟨(some 49), (.mov (.t 9)), none⟩, ⟨(some 50), (.mov (.t 7)), none⟩, ⟨(some 51), (.call 52 [(.t 49), (.t 50)]), none⟩, ⟨(some 52), (.not (.t 51)), none⟩]) (.cond (.t 52) (.ops [⟨(some 53), (.mov (.t 6)), none⟩, ⟨(some 54), (.mov (.t 9)), none⟩, ⟨(some 55), (.mov (.t 7)), none⟩, ⟨(some 56), (.call 53 [(.t 54), (.t 55)]), none⟩, ⟨(some 57), (.mget .u16 (.int .i64 0) false (.t 53) (.t 56)), none⟩, ⟨(some 58), (.mov (.t 10)), none⟩, ⟨(some 59), (.bin .add (.t 57) (.t 58)), none⟩, ⟨none, (.mput .u16 (.t 53) (.t 56) (.t 59)), none⟩]) .skip)))))))))))))) (.ops [⟨(some 60), (.bin .add (.t 29) (.c (.int .i64 1))), none⟩, ⟨(some 29), (.mov (.t 60)), none⟩]))))))) (.seq (.ops [⟨(some 61), (.mov (.t 6)), none⟩, ⟨(some 3), (.mov (.t 61)), none⟩]) (.goto 0))))))))))) (.seq (.ops [⟨(some 62), (.fa 0 (.t 1)), none⟩, ⟨(some 63), (.ld none (.t 62)), none⟩, ⟨(some 64), (.bin .add (.t 63) (.c (.int .i64 1))), none⟩, ⟨(some 65), (.mk 1 8 [(.int .i64 0)] (.t 64) (.t 64)), none⟩, ⟨(some 11), (.mov (.t 65)), none⟩]) (.seq (.seq (.ops [⟨(some 66), (.mov (.t 3)), none⟩, ⟨(some 67), (.mrg (.t 66)), none⟩]) (.block 6 (.loop (.seq (.ops [⟨(some 68), (.mnx (.t 67)), none⟩, ⟨(some 69), (.ext (.t 68) 0), none⟩]) (.seq (.cond (.t 69) .skip (.exit 6)) (.block 7 (.seq (.ops [⟨(some 70), (.ment (.t 67)), none⟩, ⟨(some 71), (.ext (.t 70) 0), none⟩, ⟨(some 72), (.ext (.t 70) 1), none⟩, ⟨(some 12), (.mov (.t 71)), none⟩, ⟨(some 13), (.mov (.t 72)), none⟩]) (.ops [⟨(some 73), (.mov (.t 11)), none⟩, ⟨(some 74), (.mov (.t 12)), none⟩, ⟨(some 75), (.call 54 [(.t 74)]), none⟩, ⟨(some 76), (.idx 1 (.t 73) (.t 75)), none⟩, ⟨(some 77), (.ld none (.t 76)), none⟩, ⟨(some 78), (.mov (.t 13)), none⟩, ⟨(some 79), (.bin .add (.t 77) (.t 78)), none⟩, ⟨(some 80), (.idx 1 (.t 73) (.t 75)), none⟩, ⟨none, (.st 1 (.t 80) (.t 79)), none⟩])))))))) (.seq (.ops [⟨(some 81), (.mov (.t 11)), none⟩, ⟨(some 2), (.mov (.t 81)), none⟩]) .ret)))))))))
theorem cc35 : ccode Tryd.prog (min Tryd.f35.ntmps pbase) (Tryd.f35.body.getD .skip) = some ac35 := by kernel_rfl
def ac36 : ACode := (.seq (.ops [⟨(some 1), (.box 2 (.t 0)), none⟩, ⟨(some 2), (.nils 1), none⟩]) (.seq (.ops [⟨(some 5), (.ld (some 2) (.t 1)), none⟩, ⟨(some 6), (.call 35 [(.t 5)]), none⟩, ⟨(some 3), (.mov (.t 6)), none⟩]) (.seq (.seq (.ops [⟨(some 7), (.mov (.t 3)), none⟩, ⟨(some 8), (.len (.t 7)), none⟩, ⟨(some 9), (.mov (.c (.int .i64 0))), none⟩]) (.block 0 (.loop (.seq (.ops [⟨(some 10), (.bin .lss (.t 9) (.t 8)), none⟩]) (.seq (.cond (.t 10) .skip (.exit 0)) (.seq (.block 1 (.seq (.ops [⟨(some 11), (.mov (.t 9)), none⟩, ⟨(some 4), (.mov (.t 11)), none⟩]) (.tree (.take ⟨(some 12), (.mov (.t 3)), none⟩ (.take ⟨(some 13), (.mov (.t 4)), none⟩ (.take ⟨(some 14), (.idx 1 (.t 12) (.t 13)), none⟩ (.take ⟨(some 15), (.ld none (.t 14)), none⟩ (.take ⟨(some 16), (.fa 0 (.t 1)), none⟩ (.take ⟨(some 17), (.ld none (.t 16)), none⟩ (.take ⟨(some 18), (.mov (.t 4)), none⟩ (.take ⟨(some 19), (.bin .sub (.t 17) (.t 18)), none⟩ (.take ⟨(some 20), (.call 55 [(.t 19)]), none⟩ (.take ⟨(some 21), (.bin .mul (.t 15) (.t 20)), none⟩ (.take ⟨(some 22), (.idx 1 (.t 12) (.t 13)), none⟩ (.take ⟨none, (.st 1 (.t 22) (.t 21)), none⟩ .done))))))))))))))) (.ops [⟨(some 23), (.bin .add (.t 9) (.c (.int .i64 1))), none⟩, ⟨(some 9), (.mov (.t 23)), none⟩]))))))) (.seq (.ops [⟨(some 24), (.mov (.t 3)), none⟩, ⟨(some 25), (.call 56 [(.t 24)]), none⟩, ⟨(some 2), (.mov (.t 25)), none⟩]) .ret))))
theorem cc36 : ccode Tryd.prog (min Tryd.f36.ntmps pbase) (Tryd.f36.body.getD .skip) = some ac36 := by kernel_rfl
def ac37 : ACode := (.seq (.ops [⟨(some 2), (.mov (.c (.bool false))), none⟩]) (.seq (.ops [⟨(some 3), (.mov (.t 0)), none⟩, ⟨(some 4), (.bin .geq (.t 3) (.c (.int .i64 1))), none⟩, ⟨(some 5), (.mov (.t 4)), none⟩, ⟨(some 6), (.mov (.t 0)), (some (5, true))⟩, ⟨(some 7), (.bin .leq (.t 6) (.c (.int .i64 8))), (some (5, true))⟩, ⟨(some 8), (.pick (.t 5) (.t 7) (.c (.bool false))), none⟩, ⟨(some 2), (.mov (.t 8)), none⟩]) .ret))
theorem cc37 : ccode Tryd.prog (min Tryd.f37.ntmps pbase) (Tryd.f37.body.getD .skip) = some ac37 := by kernel_rfl
def ac38 : ACode := (.seq (.ops [⟨(some 3), (.box 2 (.t 0)), none⟩, ⟨(some 4), (.mov (.c (.bool false))), none⟩]) (.seq (.ops [⟨(some 5), (.fa 1 (.t 1)), none⟩, ⟨(some 6), (.ld none (.t 5)), none⟩, ⟨(some 7), (.ld (some 2) (.t 3)), none⟩, ⟨(some 8), (.mgetk 46 (.bool false) false (.t 6) (.t 7)), none⟩, ⟨(some 9), (.mov (.t 8)), none⟩, ⟨(some 10), (.fa 1 (.t 2)), (some (9, false))⟩, ⟨(some 11), (.ld none (.t 10)), (some (9, false))⟩, ⟨(some 12), (.fa 0 (.t 3)), (some (9, false))⟩, ⟨(some 13), (.ld none (.t 12)), (some (9, false))⟩, ⟨(some 14), (.fa 0 (.t 1)), (some (9, false))⟩, ⟨(some 15), (.ld none (.t 14)), (some (9, false))⟩, ⟨(some 16), (.bin .sub (.t 13) (.t 15)), (some (9, false))⟩, ⟨(some 17), (.fa 1 (.t 3)), (some (9, false))⟩, ⟨(some 18), (.ld none (.t 17)), (some (9, false))⟩, ⟨(some 19), (.fa 0 (.t 1)), (some (9, false))⟩, ⟨(some 20), (.ld none (.t 19)), (some (9, false))⟩, ⟨(some 21), (.bin .sub (.t 18) (.t 20)), (some (9, false))⟩, ⟨(some 22), (.pu (.bld [(.int .i64 0), (.int .i64 0)] [(0, 1), (1, 1)]) [(.t 16), (.t 21)]), (some (9, false))⟩, ⟨(some 23), (.mgetk 46 (.bool false) false (.t 11) (.t 22)), (some (9, false))⟩, ⟨(some 24), (.pick (.t 9) (.c (.bool true)) (.t 23)), none⟩, ⟨(some 4), (.mov (.t 24)), none⟩]) .ret))
theorem cc38 : ccode Tryd.prog (min Tryd.f38.ntmps pbase) (Tryd.f38.body.getD .skip) = some ac38 := by kernel_rfl
def ac39 : ACode := (.seq (.ops [⟨(some 1), (.box 2 (.t 0)), none⟩, ⟨(some 2), (.mov (.c (.bool false))), none⟩]) (.seq (.ops [⟨(some 3), (.fa 1 (.t 1)), none⟩, ⟨(some 4), (.ld none (.t 3)), none⟩, ⟨(some 5), (.fa 0 (.t 1)), none⟩, ⟨(some 6), (.ld none (.t 5)), none⟩, ⟨(some 7), (.bin .eql (.t 4) (.t 6)), none⟩, ⟨(some 2), (.mov (.t 7)), none⟩]) .ret))
theorem cc39 : ccode Tryd.prog (min Tryd.f39.ntmps pbase) (Tryd.f39.body.getD .skip) = some ac39 := by kernel_rfl
def ac40 : ACode := (.seq (.ops [⟨(some 6), (.mov (.c (.bool false))), none⟩]) (.seq (.ops [⟨(some 7), (.mov (.t 0)), none⟩, ⟨(some 8), (.mov (.t 1)), none⟩, ⟨(some 9), (.bin .geq (.t 7) (.t 8)), none⟩, ⟨(some 10), (.mov (.t 9)), none⟩, ⟨(some 11), (.mov (.t 0)), (some (10, true))⟩, ⟨(some 12), (.mov (.t 2)), (some (10, true))⟩, ⟨(some 13), (.bin .leq (.t 11) (.t 12)), (some (10, true))⟩, ⟨(some 14), (.pick (.t 10) (.t 13) (.c (.bool false))), none⟩, ⟨(some 6), (.mov (.t 14)), none⟩]) .ret))
theorem cc40 : ccode Tryd.prog (min Tryd.f40.ntmps pbase) (Tryd.f40.body.getD .skip) = some ac40 := by kernel_rfl
def ac41 : ACode := (.seq (.ops [⟨(some 2), (.box 2 (.t 0)), none⟩, ⟨(some 3), (.mov (.c (.bool false))), none⟩]) (.seq (.tree (.take ⟨(some 4), (.fa 1 (.t 2)), none⟩ (.take ⟨(some 5), (.ld none (.t 4)), none⟩ (.take ⟨(some 6), (.fa 0 (.t 2)), none⟩ (.take ⟨(some 7), (.ld none (.t 6)), none⟩ (.take ⟨(some 8), (.bin .eql (.t 5) (.t 7)), none⟩ (.take ⟨(some 9), (.mov (.t 8)), none⟩ (.take ⟨(some 10), (.fa 1 (.t 2)), (some (9, false))⟩ (.take ⟨(some 11), (.ld none (.t 10)), (some (9, false))⟩ (.take ⟨(some 12), (.fa 0 (.t 2)), (some (9, false))⟩ (.take ⟨(some 13), (.ld none (.t 12)), (some (9, false))⟩ (.take ⟨(some 14), (.bin .add (.t 13) (.c (.int .i64 1))), (some (9, false))⟩ (.take ⟨(some 15), (.ld none (.t 1)), (some (9, false))⟩ (.take ⟨(some 16), (.bin .rem (.t 14) (.t 15)), (some (9, false))⟩ (.take ⟨(some 17), (.bin .eql (.t 11) (.t 16)), (some (9, false))⟩ (.take ⟨(some 18), (.pick (.t 9) (.c (.bool true)) (.t 17)), none⟩ (.take ⟨(some 3), (.mov (.t 18)), none⟩ .done))))))))))))))))) .ret))
theorem cc41 : ccode Tryd.prog (min Tryd.f41.ntmps pbase) (Tryd.f41.body.getD .skip) = some ac41 := by kernel_rfl
def ac42 : ACode := (.seq (.ops [⟨(some 4), (.box 2 (.t 1)), none⟩, ⟨(some 6), (.mov (.c (.string (.mk #[])))), none⟩, ⟨(some 7), (.mov (.c (.bool false))), none⟩]) (.seq (.ops [⟨(some 11), (.mov (.t 0)), none⟩, ⟨(some 12), (.call 27 [(.t 11)]), none⟩, ⟨(some 10), (.mov (.t 12)), none⟩, ⟨(some 13), (.ext (.t 10) 0), none⟩, ⟨(some 14), (.ext (.t 10) 1), none⟩, ⟨(some 8), (.alloc [(.int .i64 0), (.map none)]), none⟩, ⟨none, (.st 2 (.t 8) (.t 13)), none⟩, ⟨(some 9), (.mov (.t 14)), none⟩]) (.seq (.seq (.ops [⟨(some 15), (.mov (.t 9)), none⟩, ⟨(some 16), (.not (.t 15)), none⟩, ⟨(some 17), (.mov (.t 16)), none⟩, ⟨(some 18), (.fa 0 (.t 4)), (some (17, false))⟩, ⟨(some 19), (.ld none (.t 18)), (some (17, false))⟩, ⟨(some 20), (.fa 0 (.t 8)), (some (17, false))⟩, ⟨(some 21), (.ld none (.t 20)), (some (17, false))⟩, ⟨(some 22), (.call 57 [(.t 19), (.t 21)]), (some (17, false))⟩, ⟨(some 23), (.not (.t 22)), (some (17, false))⟩, ⟨(some 24), (.pick (.t 17) (.c (.bool true)) (.t 23)), none⟩, ⟨(some 25), (.mov (.t 24)), none⟩, ⟨(some 26), (.fa 1 (.t 4)), (some (25, false))⟩, ⟨(some 27), (.ld none (.t 26)), (some (25, false))⟩, ⟨(some 28), (.fa 0 (.t 8)), (some (25, false))⟩, ⟨(some 29), (.ld none (.t 28)), (some (25, false))⟩, ⟨(some 30), (.call 57 [(.t 27), (.t 29)]), (some (25, false))⟩, ⟨(some 31), (.not (.t 30)), (some (25, false))⟩, ⟨(some 32), (.pick (.t 25) (.c (.bool true)) (.t 31)), none⟩, ⟨(some 33), (.mov (.t 32)), none⟩, ⟨(some 34), (.fa 1 (.t 8)), (some (33, false))⟩, ⟨(some 35), (.ld none (.t 34)), (some (33, false))⟩, ⟨(some 36), (.ld (some 2) (.t 4)), (some (33, false))⟩, ⟨(some 37), (.mgetk 46 (.bool false) false (.t 35) (.t 36)), (some (33, false))⟩, ⟨(some 38), (.mov (.t 2)), (some (33, false))⟩, ⟨(some 39), (.beq false (.t 37) (.t 38)), (some (33, false))⟩, ⟨(some 40), (.pick (.t 33) (.c (.bool true)) (.t 39)), none⟩]) (.cond (.t 40) (.seq (.ops [⟨(some 6), (.mov (.c (.string (.mk #[])))), none⟩, ⟨(some 7), (.mov (.c (.bool false))), none⟩]) .ret) .skip)) (.seq (.ops [⟨(some 41), (.fa 0 (.t 8)), none⟩, ⟨(some 42), (.ld none (.t 41)), none⟩, ⟨(some 43), (.mkf 58 0 [(.t 8), (.t 4)]), none⟩, ⟨(some 44), (.call 28 [(.t 42), (.t 43)]), none⟩, ⟨(some 6), (.mov (.t 44)), none⟩, ⟨(some 7), (.mov (.c (.bool true))), none⟩]) .ret))))
theorem cc42 : ccode Tryd.prog (min Tryd.f42.ntmps pbase) (Tryd.f42.body.getD .skip) = some ac42 := by kernel_rfl
def ac43 : ACode := (.seq (.ops [⟨(some 6), (.mov (.c (.bool false))), none⟩]) (.seq (.ops [⟨(some 7), (.mov (.t 0)), none⟩, ⟨(some 8), (.call 30 [(.t 7)]), none⟩, ⟨(some 9), (.mov (.t 8)), none⟩, ⟨(some 10), (.mov (.t 1)), (some (9, true))⟩, ⟨(some 11), (.mov (.t 0)), (some (9, true))⟩, ⟨(some 12), (.call 33 [(.t 11)]), (some (9, true))⟩, ⟨(some 13), (.bin .sub (.t 12) (.c (.int .i64 1))), (some (9, true))⟩, ⟨(some 14), (.call 40 [(.t 10), (.c (.int .i64 0)), (.t 13)]), (some (9, true))⟩, ⟨(some 15), (.pick (.t 9) (.t 14) (.c (.bool false))), none⟩, ⟨(some 16), (.mov (.t 15)), none⟩, ⟨(some 17), (.mov (.t 2)), (some (16, true))⟩, ⟨(some 18), (.mov (.t 0)), (some (16, true))⟩, ⟨(some 19), (.call 33 [(.t 18)]), (some (16, true))⟩, ⟨(some 20), (.bin .sub (.t 19) (.c (.int .i64 1))), (some (16, true))⟩, ⟨(some 21), (.call 40 [(.t 17), (.c (.int .i64 0)), (.t 20)]), (some (16, true))⟩, ⟨(some 22), (.pick (.t 16) (.t 21) (.c (.bool false))), none⟩, ⟨(some 6), (.mov (.t 22)), none⟩]) .ret))
theorem cc43 : ccode Tryd.prog (min Tryd.f43.ntmps pbase) (Tryd.f43.body.getD .skip) = some ac43 := by kernel_rfl
def ac44 : ACode := (.seq (.ops [⟨(some 6), (.mov (.c (.bool false))), none⟩]) (.seq (.ops [⟨(some 7), (.mov (.t 0)), none⟩, ⟨(some 8), (.mov (.t 1)), none⟩, ⟨(some 9), (.mov (.t 0)), none⟩, ⟨(some 10), (.call 33 [(.t 9)]), none⟩, ⟨(some 11), (.bin .add (.t 10) (.c (.int .i64 1))), none⟩, ⟨(some 12), (.bin .mul (.t 8) (.t 11)), none⟩, ⟨(some 13), (.mov (.t 2)), none⟩, ⟨(some 14), (.bin .add (.t 12) (.t 13)), none⟩, ⟨(some 15), (.pu .six [(.t 7), (.t 14)]), none⟩, ⟨(some 16), (.bin .eql (.t 15) (.c (.int .u8 35))), none⟩, ⟨(some 6), (.mov (.t 16)), none⟩]) .ret))
theorem cc44 : ccode Tryd.prog (min Tryd.f44.ntmps pbase) (Tryd.f44.body.getD .skip) = some ac44 := by kernel_rfl
def ac45 : ACode := (.seq (.ops [⟨(some 8), (.mov (.c (.string (.mk #[])))), none⟩]) (.seq (.ops [⟨(some 10), (.mov (.t 1)), none⟩, ⟨(some 11), (.mov (.t 0)), none⟩, ⟨(some 12), (.call 33 [(.t 11)]), none⟩, ⟨(some 13), (.bin .add (.t 12) (.c (.int .i64 1))), none⟩, ⟨(some 14), (.bin .mul (.t 10) (.t 13)), none⟩, ⟨(some 15), (.mov (.t 2)), none⟩, ⟨(some 16), (.bin .add (.t 14) (.t 15)), none⟩, ⟨(some 9), (.mov (.t 16)), none⟩]) (.seq (.tree (.take ⟨(some 17), (.mov (.t 0)), none⟩ (.take ⟨(some 18), (.mov (.t 9)), none⟩ (.take ⟨(some 19), (.pu (.scut false true) [(.t 17), (.t 18)]), none⟩ (.take ⟨(some 20), (.mov (.t 3)), none⟩ (.take ⟨(some 21), (.bin .add (.t 19) (.t 20)), none⟩ (.take ⟨(some 22), (.mov (.t 0)), none⟩ (.take ⟨(some 23), (.mov (.t 9)), none⟩ (.take ⟨(some 24), (.bin .add (.t 23) (.c (.int .i64 1))), none⟩ (.take ⟨(some 25), (.pu (.scut true false) [(.t 22), (.t 24)]), none⟩ (.take ⟨(some 26), (.bin .add (.t 21) (.t 25)), none⟩ (.take ⟨(some 8), (.mov (.t 26)), none⟩ .done)))))))))))) .ret)))
theorem cc45 : ccode Tryd.prog (min Tryd.f45.ntmps pbase) (Tryd.f45.body.getD .skip) = some ac45 := by kernel_rfl
def ac46 : ACode := (.seq (.ops [⟨(some 2), (.mov (.c (.bool false))), none⟩]) (.seq (.ops [⟨(some 3), (.mov (.t 0)), none⟩, ⟨(some 4), (.bin .geq (.t 3) (.c (.int .i64 1))), none⟩, ⟨(some 5), (.mov (.t 4)), none⟩, ⟨(some 6), (.mov (.t 0)), (some (5, true))⟩, ⟨(some 7), (.bin .leq (.t 6) (.c (.int .i64 12))), (some (5, true))⟩, ⟨(some 8), (.pick (.t 5) (.t 7) (.c (.bool false))), none⟩, ⟨(some 2), (.mov (.t 8)), none⟩]) .ret))
theorem cc46 : ccode Tryd.prog (min Tryd.f46.ntmps pbase) (Tryd.f46.body.getD .skip) = some ac46 := by kernel_rfl
def ac47 : ACode := (.seq (.ops [⟨(some 4), (.mov (.c (.int .i64 0))), none⟩]) (.seq (.ops [⟨(some 8), (.mov (.t 0)), none⟩, ⟨(some 9), (.bin .add (.t 8) (.c (.int .i64 1))), none⟩, ⟨(some 10), (.mk 1 8 [(.int .i64 0)] (.t 9) (.t 9)), none⟩, ⟨(some 5), (.mov (.t 10)), none⟩]) (.seq (.seq (.ops [⟨(some 11), (.mov (.t 5)), none⟩, ⟨(some 12), (.len (.t 11)), none⟩, ⟨(some 13), (.mov (.c (.int .i64 0))), none⟩]) (.block 0 (.loop (.seq (.ops [⟨(some 14), (.bin .lss (.t 13) (.t 12)), none⟩]) (.seq (.cond (.t 14) .skip (.exit 0)) (.seq (.block 1 (.seq (.ops [⟨(some 15), (.mov (.t 13)), none⟩, ⟨(some 6), (.mov (.t 15)), none⟩]) (.ops [⟨(some 16), (.mov (.t 5)), none⟩, ⟨(some 17), (.mov (.t 6)), none⟩, ⟨(some 18), (.mov (.t 6)), none⟩, ⟨(some 19), (.call 55 [(.t 18)]), none⟩, ⟨(some 20), (.idx 1 (.t 16) (.t 17)), none⟩, ⟨none, (.st 1 (.t 20) (.t 19)), none⟩]))) (.ops [⟨(some 21), (.bin .add (.t 13) (.c (.int .i64 1))), none⟩, ⟨(some 13), (.mov (.t 21)), none⟩]))))))) (.seq (.seq (.ops [⟨(some 22), (.mov (.t 1)), none⟩, ⟨(some 23), (.mov (.c (.int .i64 0))), none⟩]) (.block 2 (.loop (.seq (.ops [⟨(some 24), (.bin .lss (.t 23) (.t 22)), none⟩]) (.seq (.cond (.t 24) .skip (.exit 2)) (.seq (.block 3 (.seq (.ops [⟨(some 25), (.mov (.t 0)), none⟩, ⟨(some 7), (.mov (.t 25)), none⟩]) (.block 4 (.loop (.seq (.seq (.ops [⟨(some 26), (.mov (.t 7)), none⟩, ⟨(some 27), (.bin .gtr (.t 26) (.c (.int .i64 0))), none⟩]) (.cond (.t 27) .skip (.exit 4))) (.seq (.block 5 (.tree (.take ⟨(some 30), (.mov (.t 5)), none⟩ (.take ⟨(some 31), (.mov (.t 7)), none⟩ (.take ⟨(some 32), (.idx 1 (.t 30) (.t 31)), none⟩ (.take ⟨(some 33), (.ld none (.t 32)), none⟩ (.take ⟨(some 34), (.mov (.t 5)), none⟩ (.take ⟨(some 35), (.mov (.t 7)), none⟩ (.take ⟨(some 36), (.bin .sub (.t 35) (.c (.int .i64 1))), none⟩ (.take ⟨(some 37), (.idx 1 (.t 34) (.t 36)), none⟩ (.take ⟨(some 38), (.ld none (.t 37)), none⟩ (.take ⟨(some 39), (.bin .sub (.t 33) (.t 38)), none⟩ (.take ⟨(some 40), (.idx 1 (.t 30) (.t 31)), none⟩ (.take ⟨none, (.st 1 (.t 40) (.t 39)), none⟩ .done)))))))))))))) (.ops [⟨(some 28), (.mov (.t 7)), none⟩, ⟨(some 29), (.bin .sub (.t 28) (.c (.int .i64 1))), none⟩, ⟨(some 7), (.mov (.t 29)), none⟩]))))))) (.ops [⟨(some 41), (.bin .add (.t 23) (.c (.int .i64 1))), none⟩, ⟨(some 23), (.mov (.t 41)), none⟩]))))))) (.seq (.ops [⟨(some 42), (.mov (.t 5)), none⟩, ⟨(some 43), (.mov (.t 0)), none⟩, ⟨(some 44), (.idx 1 (.t 42) (.t 43)), none⟩, ⟨(some 45), (.ld none (.t 44)), none⟩, ⟨(some 4), (.mov (.t 45)), none⟩]) .ret)))))
theorem cc47 : ccode Tryd.prog (min Tryd.f47.ntmps pbase) (Tryd.f47.body.getD .skip) = some ac47 := by kernel_rfl
def ac48 : ACode := (.seq (.ops [⟨(some 6), (.nils 1), none⟩]) (.seq (.ops [⟨(some 7), (.mov (.t 0)), none⟩, ⟨(some 8), (.mov (.t 1)), none⟩, ⟨(some 9), (.mov (.t 2)), none⟩, ⟨(some 10), (.call 59 [(.t 7), (.t 8), (.c (.int .i64 0)), (.t 9)]), none⟩, ⟨(some 6), (.mov (.t 10)), none⟩]) .ret))
theorem cc48 : ccode Tryd.prog (min Tryd.f48.ntmps pbase) (Tryd.f48.body.getD .skip) = some ac48 := by kernel_rfl
def ac49 : ACode := (.seq (.ops [⟨(some 4), (.nils 1), none⟩]) (.seq (.ops [⟨(some 5), (.nils 1), none⟩]) (.seq (.ops [⟨(some 6), (.mov (.c (.int .i64 0))), none⟩]) (.seq (.seq (.ops [⟨(some 7), (.mov (.c (.int .i64 0))), none⟩]) (.block 0 (.loop (.seq (.seq (.ops [⟨(some 8), (.mov (.t 7)), none⟩, ⟨(some 9), (.mov (.t 0)), none⟩, ⟨(some 10), (.slen (.t 9)), none⟩, ⟨(some 11), (.bin .lss (.t 8) (.t 10)), none⟩]) (.cond (.t 11) .skip (.exit 0))) (.seq (.block 1 (.seq (.ops [⟨(some 14), (.mov (.t 0)), none⟩, ⟨(some 15), (.mov (.t 7)), none⟩, ⟨(some 16), (.pu .six [(.t 14), (.t 15)]), none⟩, ⟨(some 17), (.mov (.t 1)), none⟩, ⟨(some 18), (.bin .eql (.t 16) (.t 17)), none⟩]) (.cond (.t 18) (.seq (.ops [⟨(some 19), (.mov (.t 5)), none⟩, ⟨(some 20), (.mov (.t 0)), none⟩, ⟨(some 21), (.mov (.t 6)), none⟩, ⟨(some 22), (.mov (.t 7)), none⟩, ⟨(some 23), (.pu (.scut true true) [(.t 20), (.t 21), (.t 22)]), none⟩, ⟨(some 24), (.bsl 1 1 [(.string (.mk #[]))] [(0, (.t 23))]), none⟩, ⟨(some 25), (.app 1 16 (.t 19) (.t 24)), none⟩, ⟨(some 5), (.mov (.t 25)), none⟩]) (.ops [⟨(some 26), (.mov (.t 7)), none⟩, ⟨(some 27), (.bin .add (.t 26) (.c (.int .i64 1))), none⟩, ⟨(some 6), (.mov (.t 27)), none⟩])) .skip))) (.ops [⟨(some 12), (.mov (.t 7)), none⟩, ⟨(some 13), (.bin .add (.t 12) (.c (.int .i64 1))), none⟩, ⟨(some 7), (.mov (.t 13)), none⟩])))))) (.seq (.ops [⟨(some 28), (.mov (.t 5)), none⟩, ⟨(some 29), (.mov (.t 0)), none⟩, ⟨(some 30), (.mov (.t 6)), none⟩, ⟨(some 31), (.pu (.scut true false) [(.t 29), (.t 30)]), none⟩, ⟨(some 32), (.bsl 1 1 [(.string (.mk #[]))] [(0, (.t 31))]), none⟩, ⟨(some 33), (.app 1 16 (.t 28) (.t 32)), none⟩, ⟨(some 4), (.mov (.t 33)), none⟩]) .ret)))))
theorem cc49 : ccode Tryd.prog (min Tryd.f49.ntmps pbase) (Tryd.f49.body.getD .skip) = some ac49 := by kernel_rfl
def ac52 : ACode := (.seq (.ops [⟨(some 4), (.mov (.c (.bool false))), none⟩]) (.seq (.ops [⟨(some 5), (.mov (.t 0)), none⟩, ⟨(some 6), (.mov (.t 1)), none⟩, ⟨(some 7), (.bin .shr (.t 5) (.t 6)), none⟩, ⟨(some 8), (.bin .and (.t 7) (.c (.int .u16 1))), none⟩, ⟨(some 9), (.bin .eql (.t 8) (.c (.int .u16 1))), none⟩, ⟨(some 4), (.mov (.t 9)), none⟩]) .ret))
theorem cc52 : ccode Tryd.prog (min Tryd.f52.ntmps pbase) (Tryd.f52.body.getD .skip) = some ac52 := by kernel_rfl
def ac53 : ACode := (.seq (.ops [⟨(some 4), (.mov (.c (.int .u16 0))), none⟩]) (.seq (.ops [⟨(some 5), (.mov (.t 0)), none⟩, ⟨(some 6), (.mov (.t 1)), none⟩, ⟨(some 7), (.bin .shl (.c (.int .u16 1)) (.t 6)), none⟩, ⟨(some 8), (.bin .or (.t 5) (.t 7)), none⟩, ⟨(some 4), (.mov (.t 8)), none⟩]) .ret))
theorem cc53 : ccode Tryd.prog (min Tryd.f53.ntmps pbase) (Tryd.f53.body.getD .skip) = some ac53 := by kernel_rfl
def ac54 : ACode := (.seq (.ops [⟨(some 2), (.mov (.c (.int .i64 0))), none⟩]) (.seq (.ops [⟨(some 3), (.mov (.t 0)), none⟩, ⟨(some 4), (.call 61 [(.t 3)]), none⟩, ⟨(some 2), (.mov (.t 4)), none⟩]) .ret))
theorem cc54 : ccode Tryd.prog (min Tryd.f54.ntmps pbase) (Tryd.f54.body.getD .skip) = some ac54 := by kernel_rfl
def ac55 : ACode := (.seq (.ops [⟨(some 2), (.mov (.c (.int .i64 0))), none⟩]) (.seq (.ops [⟨(some 3), (.mov (.c (.int .i64 1))), none⟩]) (.seq (.seq (.ops [⟨(some 4), (.mov (.c (.int .i64 2))), none⟩]) (.block 0 (.loop (.seq (.seq (.ops [⟨(some 5), (.mov (.t 4)), none⟩, ⟨(some 6), (.mov (.t 0)), none⟩, ⟨(some 7), (.bin .leq (.t 5) (.t 6)), none⟩]) (.cond (.t 7) .skip (.exit 0))) (.seq (.block 1 (.ops [⟨(some 10), (.mov (.t 3)), none⟩, ⟨(some 11), (.mov (.t 4)), none⟩, ⟨(some 12), (.bin .mul (.t 10) (.t 11)), none⟩, ⟨(some 3), (.mov (.t 12)), none⟩])) (.ops [⟨(some 8), (.mov (.t 4)), none⟩, ⟨(some 9), (.bin .add (.t 8) (.c (.int .i64 1))), none⟩, ⟨(some 4), (.mov (.t 9)), none⟩])))))) (.seq (.ops [⟨(some 13), (.mov (.t 3)), none⟩, ⟨(some 2), (.mov (.t 13)), none⟩]) .ret))))
theorem cc55 : ccode Tryd.prog (min Tryd.f55.ntmps pbase) (Tryd.f55.body.getD .skip) = some ac55 := by kernel_rfl
def ac56 : ACode := (.seq (.ops [⟨(some 2), (.nils 1), none⟩]) (.seq (.ops [⟨(some 6), (.mov (.t 0)), none⟩, ⟨(some 7), (.call 62 [(.t 6)]), none⟩, ⟨(some 3), (.mov (.t 7)), none⟩]) (.seq (.seq (.ops [⟨(some 8), (.mov (.t 3)), none⟩, ⟨(some 9), (.len (.t 8)), none⟩, ⟨(some 10), (.bin .sub (.t 9) (.c (.int .i64 1))), none⟩, ⟨(some 4), (.mov (.t 10)), none⟩]) (.block 0 (.loop (.seq (.seq (.ops [⟨(some 11), (.mov (.t 4)), none⟩, ⟨(some 12), (.bin .geq (.t 11) (.c (.int .i64 0))), none⟩]) (.cond (.t 12) .skip (.exit 0))) (.seq (.block 1 (.seq (.ops [⟨(some 15), (.mov (.t 4)), none⟩, ⟨(some 16), (.bin .add (.t 15) (.c (.int .i64 1))), none⟩, ⟨(some 5), (.mov (.t 16)), none⟩]) (.block 2 (.loop (.seq (.seq (.ops [⟨(some 17), (.mov (.t 5)), none⟩, ⟨(some 18), (.mov (.t 3)), none⟩, ⟨(some 19), (.len (.t 18)), none⟩, ⟨(some 20), (.bin .lss (.t 17) (.t 19)), none⟩]) (.cond (.t 20) .skip (.exit 2))) (.seq (.block 3 (.tree (.take ⟨(some 23), (.mov (.t 3)), none⟩ (.take ⟨(some 24), (.mov (.t 4)), none⟩ (.take ⟨(some 25), (.idx 1 (.t 23) (.t 24)), none⟩ (.take ⟨(some 26), (.ld none (.t 25)), none⟩ (.take ⟨(some 27), (.mov (.t 5)), none⟩ (.take ⟨(some 28), (.mov (.t 4)), none⟩ (.take ⟨(some 29), (.call 63 [(.t 27), (.t 28)]), none⟩ (.take ⟨(some 30), (.mov (.t 3)), none⟩ (.take ⟨(some 31), (.mov (.t 5)), none⟩ (.take ⟨(some 32), (.idx 1 (.t 30) (.t 31)), none⟩ (.take ⟨(some 33), (.ld none (.t 32)), none⟩ (.take ⟨(some 34), (.bin .mul (.t 29) (.t 33)), none⟩ (.take ⟨(some 35), (.bin .sub (.t 26) (.t 34)), none⟩ (.take ⟨(some 36), (.idx 1 (.t 23) (.t 24)), none⟩ (.take ⟨none, (.st 1 (.t 36) (.t 35)), none⟩ .done))))))))))))))))) (.ops [⟨(some 21), (.mov (.t 5)), none⟩, ⟨(some 22), (.bin .add (.t 21) (.c (.int .i64 1))), none⟩, ⟨(some 5), (.mov (.t 22)), none⟩]))))))) (.ops [⟨(some 13), (.mov (.t 4)), none⟩, ⟨(some 14), (.bin .sub (.t 13) (.c (.int .i64 1))), none⟩, ⟨(some 4), (.mov (.t 14)), none⟩])))))) (.seq (.ops [⟨(some 37), (.mov (.t 3)), none⟩, ⟨(some 2), (.mov (.t 37)), none⟩]) .ret))))
theorem cc56 : ccode Tryd.prog (min Tryd.f56.ntmps pbase) (Tryd.f56.body.getD .skip) = some ac56 := by kernel_rfl
def ac57 : ACode := (.seq (.ops [⟨(some 4), (.mov (.c (.bool false))), none⟩]) (.seq (.ops [⟨(some 5), (.mov (.t 0)), none⟩, ⟨(some 6), (.bin .geq (.t 5) (.c (.int .i64 0))), none⟩, ⟨(some 7), (.mov (.t 6)), none⟩, ⟨(some 8), (.mov (.t 0)), (some (7, true))⟩, ⟨(some 9), (.mov (.t 1)), (some (7, true))⟩, ⟨(some 10), (.bin .lss (.t 8) (.t 9)), (some (7, true))⟩, ⟨(some 11), (.pick (.t 7) (.t 10) (.c (.bool false))), none⟩, ⟨(some 4), (.mov (.t 11)), none⟩]) .ret))
theorem cc57 : ccode Tryd.prog (min Tryd.f57.ntmps pbase) (Tryd.f57.body.getD .skip) = some ac57 := by kernel_rfl
def ac58 : ACode := (.seq (.ops [⟨(some 3), (.box 2 (.t 0)), none⟩, ⟨(some 4), (.mov (.c (.bool false))), none⟩]) (.seq (.tree (.take ⟨(some 5), (.fa 1 (.t 1)), none⟩ (.take ⟨(some 6), (.ld none (.t 5)), none⟩ (.take ⟨(some 7), (.ld (some 2) (.t 3)), none⟩ (.take ⟨(some 8), (.mgetk 46 (.bool false) false (.t 6) (.t 7)), none⟩ (.take ⟨(some 9), (.ld (some 2) (.t 3)), none⟩ (.take ⟨(some 10), (.ld (some 2) (.t 2)), none⟩ (.take ⟨(some 11), (.pu (.aeq false [0, 1]) [(.t 9), (.t 10)]), none⟩ (.take ⟨(some 12), (.beq true (.t 8) (.t 11)), none⟩ (.take ⟨(some 4), (.mov (.t 12)), none⟩ .done)))))))))) .ret))
theorem cc58 : ccode Tryd.prog (min Tryd.f58.ntmps pbase) (Tryd.f58.body.getD .skip) = some ac58 := by kernel_rfl
def ac59 : ACode := (.seq (.ops [⟨(some 8), (.nils 1), none⟩]) (.seq (.seq (.ops [⟨(some 12), (.mov (.t 3)), none⟩, ⟨(some 13), (.bin .eql (.t 12) (.c (.int .i64 0))), none⟩]) (.cond (.t 13) (.seq (.ops [⟨(some 8), (.nils 1), none⟩]) .ret) .skip)) (.seq (.seq (.ops [⟨(some 14), (.mov (.t 1)), none⟩, ⟨(some 15), (.bin .eql (.t 14) (.c (.string (.mk #[])))), none⟩]) (.cond (.t 15) (.seq (.ops [⟨(some 16), (.mov (.t 0)), none⟩, ⟨(some 17), (.mov (.t 3)), none⟩, ⟨(some 18), (.call 64 [(.t 16), (.t 17)]), none⟩, ⟨(some 8), (.mov (.t 18)), none⟩]) .ret) .skip)) (.seq (.seq (.ops [⟨(some 19), (.mov (.t 3)), none⟩, ⟨(some 20), (.bin .lss (.t 19) (.c (.int .i64 0))), none⟩]) (.cond (.t 20) (.ops [⟨(some 21), (.mov (.t 0)), none⟩, ⟨(some 22), (.mov (.t 1)), none⟩, ⟨(some 23), (.call 65 [(.t 21), (.t 22)]), none⟩, ⟨(some 24), (.bin .add (.t 23) (.c (.int .i64 1))), none⟩, ⟨(some 3), (.mov (.t 24)), none⟩]) .skip)) (.seq (.ops [⟨(some 25), (.mov (.t 3)), none⟩, ⟨(some 26), (.mov (.t 0)), none⟩, ⟨(some 27), (.slen (.t 26)), none⟩, ⟨(some 28), (.bin .add (.t 27) (.c (.int .i64 1))), none⟩, ⟨(some 29), (.pu (.mm false) [(.t 25), (.t 28)]), none⟩, ⟨(some 3), (.mov (.t 29)), none⟩]) (.seq (.ops [⟨(some 30), (.mov (.t 3)), none⟩, ⟨(some 31), (.mk 1 16 [(.string (.mk #[]))] (.t 30) (.t 30)), none⟩, ⟨(some 9), (.mov (.t 31)), none⟩]) (.seq (.ops [⟨(some 32), (.mov (.t 3)), none⟩, ⟨(some 33), (.bin .sub (.t 32) (.c (.int .i64 1))), none⟩, ⟨(some 3), (.mov (.t 33)), none⟩]) (.seq (.ops [⟨(some 10), (.mov (.c (.int .i64 0))), none⟩]) (.seq (.block 0 (.loop (.seq (.seq (.ops [⟨(some 34), (.mov (.t 10)), none⟩, ⟨(some 35), (.mov (.t 3)), none⟩, ⟨(some 36), (.bin .lss (.t 34) (.t 35)), none⟩]) (.cond (.t 36) .skip (.exit 0))) (.block 1 (.seq (.ops [⟨(some 37), (.mov (.t 0)), none⟩, ⟨(some 38), (.mov (.t 1)), none⟩, ⟨(some 39), (.call 66 [(.t 37), (.t 38)]), none⟩, ⟨(some 11), (.mov (.t 39)), none⟩]) (.seq (.seq (.ops [⟨(some 40), (.mov (.t 11)), none⟩, ⟨(some 41), (.bin .lss (.t 40) (.c (.int .i64 0))), none⟩]) (.cond (.t 41) (.exit 0) .skip)) (.seq (.ops [⟨(some 42), (.mov (.t 9)), none⟩, ⟨(some 43), (.mov (.t 10)), none⟩, ⟨(some 44), (.mov (.t 0)), none⟩, ⟨(some 45), (.mov (.t 11)), none⟩, ⟨(some 46), (.mov (.t 2)), none⟩, ⟨(some 47), (.bin .add (.t 45) (.t 46)), none⟩, ⟨(some 48), (.pu (.scut false true) [(.t 44), (.t 47)]), none⟩, ⟨(some 49), (.idx 1 (.t 42) (.t 43)), none⟩, ⟨none, (.st 1 (.t 49) (.t 48)), none⟩]) (.seq (.ops [⟨(some 50), (.mov (.t 0)), none⟩, ⟨(some 51), (.mov (.t 11)), none⟩, ⟨(some 52), (.mov (.t 1)), none⟩, ⟨(some 53), (.slen (.t 52)), none⟩, ⟨(some 54), (.bin .add (.t 51) (.t 53)), none⟩, ⟨(some 55), (.pu (.scut true false) [(.t 50), (.t 54)]), none⟩, ⟨(some 0), (.mov (.t 55)), none⟩]) (.ops [⟨(some 56), (.mov (.t 10)), none⟩, ⟨(some 57), (.bin .add (.t 56) (.c (.int .i64 1))), none⟩, ⟨(some 10), (.mov (.t 57)), none⟩]))))))))) (.seq (.ops [⟨(some 58), (.mov (.t 9)), none⟩, ⟨(some 59), (.mov (.t 10)), none⟩, ⟨(some 60), (.mov (.t 0)), none⟩, ⟨(some 61), (.idx 1 (.t 58) (.t 59)), none⟩, ⟨none, (.st 1 (.t 61) (.t 60)), none⟩]) (.seq (.ops [⟨(some 62), (.mov (.t 9)), none⟩, ⟨(some 63), (.mov (.t 10)), none⟩, ⟨(some 64), (.bin .add (.t 63) (.c (.int .i64 1))), none⟩, ⟨(some 65), (.cut 1 (.t 62) none (some (.t 64))), none⟩, ⟨(some 8), (.mov (.t 65)), none⟩]) .ret)))))))))))
theorem cc59 : ccode Tryd.prog (min Tryd.f59.ntmps pbase) (Tryd.f59.body.getD .skip) = some ac59 := by kernel_rfl
def ac61 : ACode := (.seq (.ops [⟨(some 2), (.mov (.c (.int .i64 0))), none⟩]) (.seq (.tree (.take ⟨(some 3), (.mov (.t 0)), none⟩ (.take ⟨(some 4), (.bin .shr (.t 3) (.c (.int .u64 8))), none⟩ (.take ⟨(some 5), (.pu .six [(.c (.string (.mk #[0, 1, 1, 2, 1, 2, 2, 3, 1, 2, 2, 3, 2, 3, 3, 4, 1, 2, 2, 3, 2, 3, 3, 4, 2, 3, 3, 4, 3, 4, 4, 5, 1, 2, 2, 3, 2, 3, 3, 4, 2, 3, 3, 4, 3, 4, 4, 5, 2, 3, 3, 4, 3, 4, 4, 5, 3, 4, 4, 5, 4, 5, 5, 6, 1, 2, 2, 3, 2, 3, 3, 4, 2, 3, 3, 4, 3, 4, 4, 5, 2, 3, 3, 4, 3, 4, 4, 5, 3, 4, 4, 5, 4, 5, 5, 6, 2, 3, 3, 4, 3, 4, 4, 5, 3, 4, 4, 5, 4, 5, 5, 6, 3, 4, 4, 5, 4, 5, 5, 6, 4, 5, 5, 6, 5, 6, 6, 7, 1, 2, 2, 3, 2, 3, 3, 4, 2, 3, 3, 4, 3, 4, 4, 5, 2, 3, 3, 4, 3, 4, 4, 5, 3, 4, 4, 5, 4, 5, 5, 6, 2, 3, 3, 4, 3, 4, 4, 5, 3, 4, 4, 5, 4, 5, 5, 6, 3, 4, 4, 5, 4, 5, 5, 6, 4, 5, 5, 6, 5, 6, 6, 7, 2, 3, 3, 4, 3, 4, 4, 5, 3, 4, 4, 5, 4, 5, 5, 6, 3, 4, 4, 5, 4, 5, 5, 6, 4, 5, 5, 6, 5, 6, 6, 7, 3, 4, 4, 5, 4, 5, 5, 6, 4, 5, 5, 6, 5, 6, 6, 7, 4, 5, 5, 6, 5, 6, 6, 7, 5, 6, 6, 7, 6, 7, 7, 8]))), (.t 4)]), none⟩ (.take ⟨(some 6), (.mov (.t 0)), none⟩ (.take ⟨(some 7), (.bin .and (.t 6) (.c (.int .u16 255))), none⟩ (.take ⟨(some 8), (.pu .six [(.c (.string (.mk #[0, 1, 1, 2, 1, 2, 2, 3, 1, 2, 2, 3, 2, 3, 3, 4, 1, 2, 2, 3, 2, 3, 3, 4, 2, 3, 3, 4, 3, 4, 4, 5, 1, 2, 2, 3, 2, 3, 3, 4, 2, 3, 3, 4, 3, 4, 4, 5, 2, 3, 3, 4, 3, 4, 4, 5, 3, 4, 4, 5, 4, 5, 5, 6, 1, 2, 2, 3, 2, 3, 3, 4, 2, 3, 3, 4, 3, 4, 4, 5, 2, 3, 3, 4, 3, 4, 4, 5, 3, 4, 4, 5, 4, 5, 5, 6, 2, 3, 3, 4, 3, 4, 4, 5, 3, 4, 4, 5, 4, 5, 5, 6, 3, 4, 4, 5, 4, 5, 5, 6, 4, 5, 5, 6, 5, 6, 6, 7, 1, 2, 2, 3, 2, 3, 3, 4, 2, 3, 3, 4, 3, 4, 4, 5, 2, 3, 3, 4, 3, 4, 4, 5, 3, 4, 4, 5, 4, 5, 5, 6, 2, 3, 3, 4, 3, 4, 4, 5, 3, 4, 4, 5, 4, 5, 5, 6, 3, 4, 4, 5, 4, 5, 5, 6, 4, 5, 5, 6, 5, 6, 6, 7, 2, 3, 3, 4, 3, 4, 4, 5, 3, 4, 4, 5, 4, 5, 5, 6, 3, 4, 4, 5, 4, 5, 5, 6, 4, 5, 5, 6, 5, 6, 6, 7, 3, 4, 4, 5, 4, 5, 5, 6, 4, 5, 5, 6, 5, 6, 6, 7, 4, 5, 5, 6, 5, 6, 6, 7, 5, 6, 6, 7, 6, 7, 7, 8]))), (.t 7)]), none⟩ (.take ⟨(some 9), (.bin .add (.t 5) (.t 8)), none⟩ (.take ⟨(some 10), (.pu (.cvt .i64) [(.t 9)]), none⟩ (.take ⟨(some 2), (.mov (.t 10)), none⟩ .done)))))))))) .ret))
theorem cc61 : ccode Tryd.prog (min Tryd.f61.ntmps pbase) (Tryd.f61.body.getD .skip) = some ac61 := by kernel_rfl
def ac62 : ACode := (.seq (.ops [⟨(some 2), (.nils 1), none⟩]) (.seq (.seq (.ops [⟨(some 3), (.mov (.t 0)), none⟩, ⟨(some 4), (.isnil false (.t 3)), none⟩]) (.cond (.t 4) (.seq (.ops [⟨(some 2), (.nils 1), none⟩]) .ret) .skip)) (.seq (.ops [⟨(some 5), (.bsl 1 0 [(.int .i64 0)] []), none⟩, ⟨(some 6), (.mov (.t 0)), none⟩, ⟨(some 7), (.app 1 8 (.t 5) (.t 6)), none⟩, ⟨(some 2), (.mov (.t 7)), none⟩]) .ret)))
theorem cc62 : ccode Tryd.prog (min Tryd.f62.ntmps pbase) (Tryd.f62.body.getD .skip) = some ac62 := by kernel_rfl
def ac63 : ACode := (.seq (.ops [⟨(some 4), (.mov (.c (.int .i64 0))), none⟩]) (.seq (.ops [⟨(some 5), (.mov (.t 0)), none⟩, ⟨(some 6), (.call 55 [(.t 5)]), none⟩, ⟨(some 7), (.mov (.t 1)), none⟩, ⟨(some 8), (.call 55 [(.t 7)]), none⟩, ⟨(some 9), (.mov (.t 0)), none⟩, ⟨(some 10), (.mov (.t 1)), none⟩, ⟨(some 11), (.bin .sub (.t 9) (.t 10)), none⟩, ⟨(some 12), (.call 55 [(.t 11)]), none⟩, ⟨(some 13), (.bin .mul (.t 8) (.t 12)), none⟩, ⟨(some 14), (.bin .quo (.t 6) (.t 13)), none⟩, ⟨(some 4), (.mov (.t 14)), none⟩]) .ret))
theorem cc63 : ccode Tryd.prog (min Tryd.f63.ntmps pbase) (Tryd.f63.body.getD .skip) = some ac63 := by kernel_rfl
def ac66 : ACode := (.seq (.ops [⟨(some 4), (.mov (.c (.int .i64 0))), none⟩]) (.seq (.ops [⟨(some 5), (.mov (.t 0)), none⟩, ⟨(some 6), (.mov (.t 1)), none⟩, ⟨(some 7), (.call 70 [(.t 5), (.t 6)]), none⟩, ⟨(some 4), (.mov (.t 7)), none⟩]) .ret))
theorem cc66 : ccode Tryd.prog (min Tryd.f66.ntmps pbase) (Tryd.f66.body.getD .skip) = some ac66 := by kernel_rfl
def ac70 : ACode := (.seq (.ops [⟨(some 4), (.mov (.c (.int .i64 0))), none⟩]) (.seq (.ops [⟨(some 14), (.mov (.t 1)), none⟩, ⟨(some 15), (.slen (.t 14)), none⟩, ⟨(some 5), (.mov (.t 15)), none⟩]) (.seq (.block 0 (.seq (.ops [⟨(some 17), (.mov (.t 5)), none⟩, ⟨(some 18), (.bin .eql (.t 17) (.c (.int .i64 0))), none⟩, ⟨(some 19), (.mov (.t 18)), none⟩, ⟨(some 20), (.mov (.t 1)), (some (19, false))⟩, ⟨(some 21), (.mov (.t 0)), (some (19, false))⟩, ⟨(some 22), (.bin .eql (.t 20) (.t 21)), (some (19, false))⟩, ⟨(some 23), (.pick (.t 19) (.c (.bool true)) (.t 22)), none⟩, ⟨(some 16), (.mov (.t 23)), none⟩]) (.cond (.t 16) (.seq (.ops [⟨(some 4), (.mov (.c (.int .i64 0))), none⟩]) .ret) (.seq (.ops [⟨(some 25), (.mov (.t 5)), none⟩, ⟨(some 26), (.bin .eql (.t 25) (.c (.int .i64 1))), none⟩, ⟨(some 24), (.mov (.t 26)), none⟩]) (.cond (.t 24) (.seq (.ops [⟨(some 27), (.mov (.t 0)), none⟩, ⟨(some 28), (.mov (.t 1)), none⟩, ⟨(some 29), (.pu .six [(.t 28), (.c (.int .i64 0))]), none⟩, ⟨(some 30), (.call 72 [(.t 27), (.t 29)]), none⟩, ⟨(some 4), (.mov (.t 30)), none⟩]) .ret) (.seq (.ops [⟨(some 32), (.mov (.t 5)), none⟩, ⟨(some 33), (.mov (.t 0)), none⟩, ⟨(some 34), (.slen (.t 33)), none⟩, ⟨(some 35), (.bin .geq (.t 32) (.t 34)), none⟩, ⟨(some 31), (.mov (.t 35)), none⟩]) (.cond (.t 31) (.seq (.ops [⟨(some 4), (.mov (.c (.int .i64 (-1)))), none⟩]) .ret) (.seq (.ops [⟨(some 37), (.mov (.t 5)), none⟩, ⟨(some 38), (.ld none (.c (.pointer (some (.mk 0 0 none))))), none⟩, ⟨(some 39), (.bin .leq (.t 37) (.t 38)), none⟩, ⟨(some 40), (.mov (.t 39)), none⟩, ⟨(some 41), (.mov (.t 0)), (some (40, true))⟩, ⟨(some 42), (.slen (.t 41)), (some (40, true))⟩, ⟨(some 43), (.bin .leq (.t 42) (.c (.int .i64 64))), (some (40, true))⟩, ⟨(some 44), (.pick (.t 40) (.t 43) (.c (.bool false))), none⟩, ⟨(some 36), (.mov (.t 44)), none⟩]) (.cond (.t 36) (.seq (.ops [⟨(some 45), (.mov (.t 0)), none⟩, ⟨(some 46), (.mov (.t 1)), none⟩, ⟨(some 47), (.xcall 73 [(.t 45), (.t 46)]), none⟩, ⟨(some 4), (.mov (.t 47)), none⟩]) .ret) .skip))))))))) (.seq (.ops [⟨(some 48), (.mov (.t 1)), none⟩, ⟨(some 49), (.pu .six [(.t 48), (.c (.int .i64 0))]), none⟩, ⟨(some 6), (.mov (.t 49)), none⟩]) (.seq (.ops [⟨(some 50), (.mov (.t 1)), none⟩, ⟨(some 51), (.pu .six [(.t 50), (.c (.int .i64 1))]), none⟩, ⟨(some 7), (.mov (.t 51)), none⟩]) (.seq (.ops [⟨(some 8), (.mov (.c (.int .i64 0))), none⟩]) (.seq (.ops [⟨(some 52), (.mov (.t 0)), none⟩, ⟨(some 53), (.slen (.t 52)), none⟩, ⟨(some 54), (.mov (.t 5)), none⟩, ⟨(some 55), (.bin .sub (.t 53) (.t 54)), none⟩, ⟨(some 56), (.bin .add (.t 55) (.c (.int .i64 1))), none⟩, ⟨(some 9), (.mov (.t 56)), none⟩]) (.seq (.ops [⟨(some 10), (.mov (.c (.int .i64 0))), none⟩]) (.seq (.block 1 (.loop (.seq (.seq (.ops [⟨(some 57), (.mov (.t 8)), none⟩, ⟨(some 58), (.mov (.t 9)), none⟩, ⟨(some 59), (.bin .lss (.t 57) (.t 58)), none⟩]) (.cond (.t 59) .skip (.exit 1))) (.block 2 (.seq (.seq (.ops [⟨(some 60), (.mov (.t 0)), none⟩, ⟨(some 61), (.mov (.t 8)), none⟩, ⟨(some 62), (.pu .six [(.t 60), (.t 61)]), none⟩, ⟨(some 63), (.mov (.t 6)), none⟩, ⟨(some 64), (.bin .neq (.t 62) (.t 63)), none⟩]) (.cond (.t 64) (.seq (.ops [⟨(some 65), (.mov (.t 0)), none⟩, ⟨(some 66), (.mov (.t 8)), none⟩, ⟨(some 67), (.bin .add (.t 66) (.c (.int .i64 1))), none⟩, ⟨(some 68), (.mov (.t 9)), none⟩, ⟨(some 69), (.pu (.scut true true) [(.t 65), (.t 67), (.t 68)]), none⟩, ⟨(some 70), (.mov (.t 6)), none⟩, ⟨(some 71), (.call 72 [(.t 69), (.t 70)]), none⟩, ⟨(some 11), (.mov (.t 71)), none⟩]) (.seq (.seq (.ops [⟨(some 72), (.mov (.t 11)), none⟩, ⟨(some 73), (.bin .lss (.t 72) (.c (.int .i64 0))), none⟩]) (.cond (.t 73) (.seq (.ops [⟨(some 4), (.mov (.c (.int .i64 (-1)))), none⟩]) .ret) .skip)) (.ops [⟨(some 74), (.mov (.t 8)), none⟩, ⟨(some 75), (.mov (.t 11)), none⟩, ⟨(some 76), (.bin .add (.t 75) (.c (.int .i64 1))), none⟩, ⟨(some 77), (.bin .add (.t 74) (.t 76)), none⟩, ⟨(some 8), (.mov (.t 77)), none⟩]))) .skip)) (.seq (.seq (.ops [⟨(some 78), (.mov (.t 0)), none⟩, ⟨(some 79), (.mov (.t 8)), none⟩, ⟨(some 80), (.bin .add (.t 79) (.c (.int .i64 1))), none⟩, ⟨(some 81), (.pu .six [(.t 78), (.t 80)]), none⟩, ⟨(some 82), (.mov (.t 7)), none⟩, ⟨(some 83), (.bin .eql (.t 81) (.t 82)), none⟩, ⟨(some 84), (.mov (.t 83)), none⟩, ⟨(some 85), (.mov (.t 0)), (some (84, true))⟩, ⟨(some 86), (.mov (.t 8)), (some (84, true))⟩, ⟨(some 87), (.mov (.t 8)), (some (84, true))⟩, ⟨(some 88), (.mov (.t 5)), (some (84, true))⟩, ⟨(some 89), (.bin .add (.t 87) (.t 88)), (some (84, true))⟩, ⟨(some 90), (.pu (.scut true true) [(.t 85), (.t 86), (.t 89)]), (some (84, true))⟩, ⟨(some 91), (.mov (.t 1)), (some (84, true))⟩, ⟨(some 92), (.bin .eql (.t 90) (.t 91)), (some (84, true))⟩, ⟨(some 93), (.pick (.t 84) (.t 92) (.c (.bool false))), none⟩]) (.cond (.t 93) (.seq (.ops [⟨(some 94), (.mov (.t 8)), none⟩, ⟨(some 4), (.mov (.t 94)), none⟩]) .ret) .skip)) (.seq (.ops [⟨(some 95), (.mov (.t 8)), none⟩, ⟨(some 96), (.bin .add (.t 95) (.c (.int .i64 1))), none⟩, ⟨(some 8), (.mov (.t 96)), none⟩]) (.seq (.ops [⟨(some 97), (.mov (.t 10)), none⟩, ⟨(some 98), (.bin .add (.t 97) (.c (.int .i64 1))), none⟩, ⟨(some 10), (.mov (.t 98)), none⟩]) (.seq (.ops [⟨(some 99), (.mov (.t 5)), none⟩, ⟨(some 100), (.ld none (.c (.pointer (some (.mk 0 0 none))))), none⟩, ⟨(some 101), (.bin .leq (.t 99) (.t 100)), none⟩, ⟨(some 102), (.mov (.t 101)), none⟩, ⟨(some 103), (.mov (.t 10)), (some (102, true))⟩, ⟨(some 104), (.mov (.t 8)), (some (102, true))⟩, ⟨(some 105), (.call 74 [(.t 104)]), (some (102, true))⟩, ⟨(some 106), (.bin .gtr (.t 103) (.t 105)), (some (102, true))⟩, ⟨(some 107), (.pick (.t 102) (.t 106) (.c (.bool false))), none⟩]) (.cond (.t 107) (.seq (.ops [⟨(some 108), (.mov (.t 0)), none⟩, ⟨(some 109), (.mov (.t 8)), none⟩, ⟨(some 110), (.pu (.scut true false) [(.t 108), (.t 109)]), none⟩, ⟨(some 111), (.mov (.t 1)), none⟩, ⟨(some 112), (.xcall 73 [(.t 110), (.t 111)]), none⟩, ⟨(some 12), (.mov (.t 112)), none⟩]) (.seq (.seq (.ops [⟨(some 113), (.mov (.t 12)), none⟩, ⟨(some 114), (.bin .geq (.t 113) (.c (.int .i64 0))), none⟩]) (.cond (.t 114) (.seq (.ops [⟨(some 115), (.mov (.t 12)), none⟩, ⟨(some 116), (.mov (.t 8)), none⟩, ⟨(some 117), (.bin .add (.t 115) (.t 116)), none⟩, ⟨(some 4), (.mov (.t 117)), none⟩]) .ret) .skip)) (.seq (.ops [⟨(some 4), (.mov (.c (.int .i64 (-1)))), none⟩]) .ret))) (.seq (.ops [⟨(some 118), (.mov (.t 5)), none⟩, ⟨(some 119), (.ld none (.c (.pointer (some (.mk 0 0 none))))), none⟩, ⟨(some 120), (.bin .gtr (.t 118) (.t 119)), none⟩, ⟨(some 121), (.mov (.t 120)), none⟩, ⟨(some 122), (.mov (.t 10)), (some (121, true))⟩, ⟨(some 123), (.mov (.t 8)), (some (121, true))⟩, ⟨(some 124), (.bin .shr (.t 123) (.c (.int .u64 4))), (some (121, true))⟩, ⟨(some 125), (.bin .add (.c (.int .i64 4)) (.t 124)), (some (121, true))⟩, ⟨(some 126), (.bin .geq (.t 122) (.t 125)), (some (121, true))⟩, ⟨(some 127), (.pick (.t 121) (.t 126) (.c (.bool false))), none⟩, ⟨(some 128), (.mov (.t 127)), none⟩, ⟨(some 129), (.mov (.t 8)), (some (128, true))⟩, ⟨(some 130), (.mov (.t 9)), (some (128, true))⟩, ⟨(some 131), (.bin .lss (.t 129) (.t 130)), (some (128, true))⟩, ⟨(some 132), (.pick (.t 128) (.t 131) (.c (.bool false))), none⟩]) (.cond (.t 132) (.seq (.ops [⟨(some 133), (.mov (.t 0)), none⟩, ⟨(some 134), (.mov (.t 8)), none⟩, ⟨(some 135), (.pu (.scut true false) [(.t 133), (.t 134)]), none⟩, ⟨(some 136), (.mov (.t 1)), none⟩, ⟨(some 137), (.call 75 [(.t 135), (.t 136)]), none⟩, ⟨(some 13), (.mov (.t 137)), none⟩]) (.seq (.seq (.ops [⟨(some 138), (.mov (.t 13)), none⟩, ⟨(some 139), (.bin .lss (.t 138) (.c (.int .i64 0))), none⟩]) (.cond (.t 139) (.seq (.ops [⟨(some 4), (.mov (.c (.int .i64 (-1)))), none⟩]) .ret) .skip)) (.seq (.ops [⟨(some 140), (.mov (.t 8)), none⟩, ⟨(some 141), (.mov (.t 13)), none⟩, ⟨(some 142), (.bin .add (.t 140) (.t 141)), none⟩, ⟨(some 4), (.mov (.t 142)), none⟩]) .ret))) .skip)))))))))))) (.seq (.ops [⟨(some 4), (.mov (.c (.int .i64 (-1)))), none⟩]) .ret))))))))))
theorem cc70 : ccode Tryd.prog (min Tryd.f70.ntmps pbase) (Tryd.f70.body.getD .skip) = some ac70 := by kernel_rfl
def ac72 : ACode := (.seq (.ops [⟨(some 4), (.mov (.c (.int .i64 0))), none⟩]) (.seq (.ops [⟨(some 5), (.mov (.t 0)), none⟩, ⟨(some 6), (.mov (.t 1)), none⟩, ⟨(some 7), (.xcall 76 [(.t 5), (.t 6)]), none⟩, ⟨(some 4), (.mov (.t 7)), none⟩]) .ret))
theorem cc72 : ccode Tryd.prog (min Tryd.f72.ntmps pbase) (Tryd.f72.body.getD .skip) = some ac72 := by kernel_rfl
end Go.Proofs.YtmifianbkpiifaaDoor
namespace Go.Proofs.YtmifianbkpiifaaDoor
variable [Go.Am.CodeBlk]
open Go.Am
attribute [local irreducible] AW Outs Weak Lends Lend Sp aops atree aop1 Then Round InBlock Done
theorem isGuest_spec (a b : Int) : Sp Tryd.prog 57 [.i a, .i b] (.b (decide (0 ≤ a ∧ a < b))) := by
  refine spec_of Tryd.func57 rfl cc57 rfl ?_
  unfold ac57
  by_cases h : 0 ≤ a
  all_goals
    repeat (first | (refine step_ops ?_; (first | ((try (refine g_yes rfl ?_ ?_; (· (refine decide_eq_true ?_; assumption)))); (first | (refine m_mov (by conv => lhs; whnf) ?_) | (refine m_lss rfl rfl ?_) | (refine m_geq rfl rfl ?_) | (refine m_pick_t rfl ?_ (by conv => lhs; whnf) ?_; (· (refine decide_eq_true ?_; assumption))) | (refine m_pick_f rfl ?_ (by conv => lhs; whnf) ?_; (· (refine decide_eq_false ?_; assumption))))) | (refine g_noT rfl ?_ ?_; (· (refine decide_eq_false ?_; assumption))))) | refine end_ops ?_ | refine seq_ops ?_ | refine AW_ret ?_ | refine ret_done ?_)
    refine outs_b ?_
    simp [*]
theorem isGuestCount_spec (a : Int) : Sp Tryd.prog 46 [.i a] (.b (decide (1 ≤ a ∧ a ≤ 12))) := by
  refine spec_of Tryd.func46 rfl cc46 rfl ?_
  unfold ac46
  by_cases h : 1 ≤ a
  all_goals
    repeat (first | (refine step_ops ?_; (first | ((try (refine g_yes rfl ?_ ?_; (· (refine decide_eq_true ?_; assumption)))); (first | (refine m_mov (by conv => lhs; whnf) ?_) | (refine m_leq rfl rfl ?_) | (refine m_geq rfl rfl ?_) | (refine m_pick_t rfl ?_ (by conv => lhs; whnf) ?_; (· (refine decide_eq_true ?_; assumption))) | (refine m_pick_f rfl ?_ (by conv => lhs; whnf) ?_; (· (refine decide_eq_false ?_; assumption))))) | (refine g_noT rfl ?_ ?_; (· (refine decide_eq_false ?_; assumption))))) | refine end_ops ?_ | refine seq_ops ?_ | refine AW_ret ?_ | refine ret_done ?_)
    refine outs_b ?_
    simp [*]
theorem l1In_spec (a b c : Int) : Sp Tryd.prog 40 [.i a, .i b, .i c] (.b (decide (b ≤ a ∧ a ≤ c))) := by
  refine spec_of Tryd.func40 rfl cc40 rfl ?_
  unfold ac40
  by_cases h : b ≤ a
  all_goals
    repeat (first | (refine step_ops ?_; (first | ((try (refine g_yes rfl ?_ ?_; (· (refine decide_eq_true ?_; assumption)))); (first | (refine m_mov (by conv => lhs; whnf) ?_) | (refine m_leq rfl rfl ?_) | (refine m_geq rfl rfl ?_) | (refine m_pick_t rfl ?_ (by conv => lhs; whnf) ?_; (· (refine decide_eq_true ?_; assumption))) | (refine m_pick_f rfl ?_ (by conv => lhs; whnf) ?_; (· (refine decide_eq_false ?_; assumption))))) | (refine g_noT rfl ?_ ?_; (· (refine decide_eq_false ?_; assumption))))) | refine end_ops ?_ | refine seq_ops ?_ | refine AW_ret ?_ | refine ret_done ?_)
    refine outs_b ?_
    simp [*]
end Go.Proofs.YtmifianbkpiifaaDoor
namespace Go.Am
variable [Go.Am.CodeBlk]
variable {P : Program} {own : Bool} {d : Option Nat} {s : AS} {K : AS → Prop} {N : Nat}
section
variable {x y z : Opd} {A B : List UInt8}
theorem str_beq (A B : List UInt8) : ((⟨A.toArray⟩ : ByteArray).toList == (⟨B.toArray⟩ : ByteArray).toList) = decide (A = B) := by
  rw [ByteArray.toList_eq, ByteArray.toList_eq, Bool.eq_iff_iff]
  simp
theorem m_eqs (hx : s.ev x = str A) (hy : s.ev y = str B) (k : K (s.put d (.b (decide (A = B))))) : aop1 P own ⟨d, .bin .eql x y, none⟩ s K := by
  refine ⟨_, _, _, hx, hy, rfl, ?_⟩
  rw [str_beq]
  exact k
theorem m_eqk {q : IntKind} {a b : Int} (hx : s.ev x = .v (.int q a)) (hy : s.ev y = .v (.int q b)) (k : K (s.put d (.b (decide (a = b))))) : aop1 P own ⟨d, .bin .eql x y, none⟩ s K := by
  refine ⟨_, _, .bool (a == b), hx, hy, by simp [pbin], ?_⟩
  rw [show (a == b) = decide (a = b) from by rw [Bool.eq_iff_iff]; simp]
  exact k
theorem m_neqk {q : IntKind} {a b : Int} (hx : s.ev x = .v (.int q a)) (hy : s.ev y = .v (.int q b)) (k : K (s.put d (.b (decide (a ≠ b))))) : aop1 P own ⟨d, .bin .neq x y, none⟩ s K := by
  refine ⟨_, _, .bool (a != b), hx, hy, by simp [pbin], ?_⟩
  rw [show (a != b) = decide (a ≠ b) from by rw [Bool.eq_iff_iff]; simp]
  exact k
theorem bytes_extract (A : List UInt8) (l h : Nat) : (⟨A.toArray⟩ : ByteArray).extract l h = ⟨((A.drop l).take (h - l)).toArray⟩ := by
  apply ByteArray.ext
  rw [ByteArray.data_extract]
  apply Array.ext'
  rw [Array.toList_extract]
theorem m_scutb {l h : Nat} (hx : s.ev x = str A) (hl : s.ev y = .i (l : Nat)) (hh : s.ev z = .i (h : Nat)) (h1 : l ≤ h) (h2 : h ≤ A.length) (k : K (s.put d (str ((A.drop l).take (h - l))))) : aop1 P own ⟨d, .pu (.scut true true) [x, y, z], none⟩ s K :=
  m_scut_both hx hl hh h1 (by show h ≤ A.toArray.size; simpa using h2) (by rw [bytes_extract]; exact k)
theorem m_scutl {l : Nat} (hx : s.ev x = str A) (hl : s.ev y = .i (l : Nat)) (h1 : l ≤ A.length) (k : K (s.put d (str (A.drop l)))) : aop1 P own ⟨d, .pu (.scut true false) [x, y], none⟩ s K := by
  refine m_scut_lo hx hl (by show l ≤ A.toArray.size; simpa using h1) ?_
  rw [bytes_extract]
  have : (⟨A.toArray⟩ : ByteArray).size = A.length := by show A.toArray.size = _; simp
  rw [this, List.take_of_length_le (by simp)]
  exact k
theorem m_scuth {h : Nat} (hx : s.ev x = str A) (hh : s.ev y = .i (h : Nat)) (h1 : h ≤ A.length) (k : K (s.put d (str (A.take h)))) : aop1 P own ⟨d, .pu (.scut false true) [x, y], none⟩ s K := by
  refine m_scut_hi hx hh (by show h ≤ A.toArray.size; simpa using h1) ?_
  rw [bytes_extract, List.drop_zero, Nat.sub_zero]
  exact k
theorem m_xcall {f : FuncId} {fn : Func} {e : Array Value → Sem Value} {args : List Opd} {vs : List Value} {v : Value} (h1 : P.funcs[f]? = some fn) (h2 : (fn.name == "runtime.NumGoroutine") = false) (h3 : fn.body.isNone = true) (h4 : Extern.findNext fn = none) (h5 : Extern.find fn = some e)
    (h6 : args.map s.ev = vs.map AV.v) (h7 : ∀ w, (e vs.toArray).run P w = .ok v w) (k : K (s.put d (.v v))) : aop1 P own ⟨d, .xcall f args, none⟩ s K := ⟨fn, e, vs, v, h1, h2, h3, h4, h5, h6, h7, k⟩
end
theorem m_fa_rp {x : Opd} {off : Nat} {cs : List AV} (hx : s.ev x = .rp cs) (k : K (s.put d (.rp (cs.drop off)))) : aop1 P own ⟨d, .fa off x, none⟩ s K := .inr ⟨cs, hx, k⟩
theorem m_ldall_rp {x : Opd} {n : Nat} {cs : List AV} (hx : s.ev x = .rp cs) (hl : cs.length = n) (k : K (s.put d (.agg cs))) : aop1 P own ⟨d, .ld (some n) x, none⟩ s K := m_ldk_rp hx (by omega) (by rw [List.take_of_length_le (by omega)]; exact k)
/- Maps. -/
section
variable {x y i : Opd}
theorem m_mgetk {kt : TypeId} {zv : Value} {es : Array MapEntry} {clock : Nat} {kv : Value} {r : AV} {ok : Bool} (KL : WideMaps.KeyLaw P kt) (hm : MapAt s (s.ev x) es clock) (hi : exV (s.ev i) = some kv) (hk : ∃ l, keyOf P kt kv = some l) (hkeys : ∀ e ∈ es.toList, ∃ l, keyOf P kt e.key = some l)
    (h1 : ∀ e ∈ es.toList, e.key = kv → mres ok e.val true = r) (h2 : (∀ e ∈ es.toList, e.key ≠ kv) → mres ok zv false = r) (k : K (s.put d r)) : aop1 P own ⟨d, .mgetk kt zv ok x i, none⟩ s K :=
  ⟨KL, es, clock, kv, hm, hi, hk, hkeys, r, h1, h2, k⟩
theorem m_mrg {r q : Nat} {es : Array MapEntry} {clock : Nat} (hx : s.ev x = .mp q) (hne : q ≠ r) (hq : s.hp q = some (true, [.ob (.map es clock)]))
    (k : ∀ bm : Nat, K (((s.kill r).mem r (true, [.ob (.mapIter (some bm) clock #[] clock)])).put (some r) (.mit r (some q) bm #[] 0))) : aop1 P own ⟨some r, .mrg x, none⟩ s K :=
  ⟨r, rfl, .inl ⟨q, es, clock, hx, hne, hq, k⟩⟩
theorem m_mnx {r q bm ck0 since : Nat} {es0 : Array MapEntry} {seen : Array Nat} {c0 : Nat} {es : Array MapEntry} {clock : Nat} (hx : s.ev x = .mit r (some q) bm es0 ck0) (hr : s.hp r = some (true, [.ob (.mapIter (some bm) since seen c0)]))
    (hne : q ≠ r) (hq : s.hp q = some (true, [.ob (.map es clock)])) (hold : ∀ e ∈ es.toList, e.born < since) (hsc : since ≤ c0) (k1 : (∀ e ∈ es.toList, seen.contains e.born = true) → K (s.put d (.tup [.v (.bool false)])))
    (k2 : ∀ e ∈ es.toList, seen.contains e.born = false → K ((s.mem r (true, [.ob (.mapIter (some bm) since (seen.push e.born) clock)])).put d (.tup [.v (.bool true), .any, .any]))) : aop1 P own ⟨d, .mnx x, none⟩ s K :=
  ⟨r, some q, bm, es0, ck0, since, seen, c0, es, clock, hx, hr, .inl ⟨q, rfl, hne, hq⟩, hold, hsc, k1, k2⟩
theorem m_ment {r q bm ck0 since : Nat} {es0 : Array MapEntry} {seen : Array Nat} {es : Array MapEntry} {clock : Nat} {e : MapEntry} {ka va : AV} (hx : s.ev x = .mit r (some q) bm es0 ck0)
    (hr : s.hp r = some (true, [.ob (.mapIter (some bm) since (seen.push e.born) clock)])) (hne : q ≠ r) (hq : s.hp q = some (true, [.ob (.map es clock)])) (he : e ∈ es.toList) (hn : (es.toList.map (·.born)).Nodup)
    (hka : exV ka = some e.key) (hva : exV va = some e.val) (k : K (s.put d (.tup [ka, va]))) : aop1 P own ⟨d, .ment x, none⟩ s K :=
  ⟨r, some q, bm, es0, ck0, since, seen, es, clock, e, ka, va, hx, hr, .inl ⟨q, rfl, hne, hq⟩, he, hn, hka, hva, k⟩
theorem m_mdel {kt : TypeId} {r : Nat} {es : Array MapEntry} {clock : Nat} {kv : Value} (KL : WideMaps.KeyLaw P kt) (hx : s.ev x = .mp r) (hr : s.hp r = some (true, [.ob (.map es clock)])) (hi : exV (s.ev i) = some kv) (hk : ∃ l, keyOf P kt kv = some l)
    (hks : ∀ e ∈ es.toList, ∃ l, keyOf P kt e.key = some l) (k1 : ∀ (n : Nat) (e : MapEntry), es.toList[n]? = some e → e.key = kv → K ((s.mem r (true, [.ob (.map (es.eraseIdxIfInBounds n) clock)])).put d (.tup [])))
    (k2 : (∀ e ∈ es.toList, e.key ≠ kv) → K ((s.mem r (true, [.ob (.map es clock)])).put d (.tup []))) : aop1 P own ⟨d, .mdel kt x i, none⟩ s K :=
  ⟨KL, r, es, clock, kv, hx, hr, hi, hk, hks, k1, k2⟩
theorem m_mputk {kt : TypeId} {r : Nat} {es : Array MapEntry} {clock : Nat} {kv v : Value} (KL : WideMaps.KeyLaw P kt) (hx : s.ev x = .mp r) (hr : s.hp r = some (true, [.ob (.map es clock)])) (hi : exV (s.ev i) = some kv) (hy : s.ev y = .v v) (hk : ∃ l, keyOf P kt kv = some l) (hkeys : ∀ e ∈ es.toList, ∃ l, keyOf P kt e.key = some l)
    (hnew : ∀ e ∈ es.toList, e.key ≠ kv) (k : K (s.mem r (true, [.ob (.map (es.push { key := kv, val := v, born := clock }) (clock + 1))]))) : aop1 P own ⟨none, .mputk kt x i y, none⟩ s K :=
  ⟨KL, r, es, clock, kv, v, hx, hr, hi, hy, hk, hkeys, fun n e he hk => absurd hk (hnew e (List.mem_of_getElem? he)), fun _ => k⟩
end
/-- Plain values, and maps that nobody writes. -/
def plainM : AV → Bool
  | .v _ => true
  | .rmp _ _ _ => true
  | _ => false
/-- Such a value, asx somebody else sees it. -/
def unf : AV → AV
  | .rmp _ es clock => .rmp false es clock
  | x => x
theorem simL_rmp {C D : Ctx} (hh : C.heap = D.heap) (hr : ∀ b, C.ro b → D.ro b) : ∀ {l : List AV} {ys : List Value}, l.all plainM = true → SimL l C ys → SimL (l.map unf) D ys
  | [], _, _, _ => by simp [SimL]
  | _ :: _, [], _, h => by simp [SimL] at h
  | x :: l, y :: ys, h, hs => by
    simp only [List.all_cons, Bool.and_eq_true, SimL, List.map_cons] at h hs ⊢
    refine ⟨?_, simL_rmp hh hr h.2 hs.2⟩
    cases x <;> simp [plainM] at h
    · simpa [SimV, unf] using hs.1
    · have h1 := hs.1
      simp only [SimV, unf] at h1 ⊢
      obtain ⟨b, k1, k2, k3, _⟩ := h1
      exact ⟨b, k1, by rw [← hh]; exact k2, hr b k3, fun e => by cases e⟩
theorem lend_rmp {hp : Hp} {fr : Bool} {es : Array MapEntry} {clock : Nat} : Lend hp (.rmp fr es clock) (.rmp false es clock) := by
  intro w0 mu N tm w phi ro v hS hv
  simp only [SimV] at hv ⊢
  obtain ⟨b, k1, k2, k3, _⟩ := hv
  exact ⟨b, k1, k2, lt_of_get k2, fun e => by cases e⟩
theorem ob_at' {w0 w : World} {mu : Nat → Option Nat} {tm : Array Value} {phi : Nat → Option Nat} {ro : Nat → Prop} (hS : Sim w0 mu N s tm w phi ro) {r k : Nat} {es : Array MapEntry} {clock : Nat} (hr : s.hp r = some (true, [.ob (.map es clock)])) (hk : phi r = some k) :
    w.heap[k]? = some (.map es clock) ∧ (r < pbase → Mine w0 mu k) := by
  rcases hS.liv r _ hr with ⟨h1, _⟩ | ⟨b', cur, e, h1, h2, _, _, h5⟩ | ⟨b', o, h0, h1, h2, h3, h4, h5⟩
  · rw [h1] at hk; cases hk
  · exfalso
    simp only [SimR, if_true] at h5
    cases hc : cur.toList with
    | nil => rw [hc] at h5; simp [SimL] at h5
    | cons y ys => rw [hc] at h5; simp [SimL, SimV] at h5
  · rw [h1] at hk
    cases hk
    simp only [Prod.mk.injEq, List.cons.injEq, AV.ob.injEq, and_true, true_and] at h0
    subst h0
    exact ⟨h2, fun hp => (h5.resolve_right fun h => by omega).2⟩
/-- What a callee sees of plain memory. -/
abbrev ctxAll (w : World) : Ctx := { heap := w.heap, ro := fun b => b < w.heap.size, base := w.heap.size, phi := fun _ => none, live := fun _ => false, loc := false }
theorem lend_map {hp : Hp} {r : Nat} {es : Array MapEntry} {clock : Nat} (hr : hp r = some (true, [.ob (.map es clock)])) : Lend hp (.mp r) (.rmp false es clock) := by
  intro w0 mu N tm w phi ro v hS hv
  simp only [SimV] at hv ⊢
  obtain ⟨_, _, b, k1, k2⟩ := hv
  have k3 := (ob_at' hS hr k1).1
  exact ⟨b, k2, k3, lt_of_get k3, fun e => by cases e⟩
theorem lend_aggM {hp : Hp} {l : List AV} (hall : l.all plainM = true) : Lend hp (.agg l) (.agg (l.map unf)) := by
  intro w0 mu N tm w phi ro v hS h
  simp only [SimV] at h ⊢
  obtain ⟨a, h1, h2, h3⟩ := h
  exact ⟨a, h1, by rw [h2, List.length_map], simL_rmp (C := ctx w0 w ro phi ⟨fun _ => .any, hp⟩) (D := ctxAll w) rfl (fun b hb => hS.rob b hb) hall h3⟩
theorem lend_rpM {hp : Hp} {cs : List AV} (hall : cs.all plainM = true) : Lend hp (.rp cs) (.rp (cs.map unf)) := by
  intro w0 mu N tm w phi ro v hS hv
  simp only [SimV] at hv ⊢
  obtain ⟨b, o, cur, e, fz, h1, h2, h3, h4⟩ := hv
  exact ⟨b, o, cur, e, fz, h1, h2, lt_of_get h2, simL_rmp (C := (ctx w0 w ro phi ⟨fun _ => .any, hp⟩).out) (D := (ctxAll w).out) rfl (fun b hb => hS.rob b hb) hall h4⟩
theorem bears_rpM {cs : List AV} (h : cs.all plainM = true) (hu : cs.map unf = cs) : Bears [.rp cs] := by
  intro hp x hx
  rw [List.mem_singleton.1 hx]
  have := lend_rpM (hp := hp) h
  rw [hu] at this
  exact this
theorem bears_cons {x : AV} {l : List AV} (h : Bears [x]) (k : Bears l) : Bears (x :: l) := by
  intro hp y hy
  rcases List.mem_cons.1 hy with rfl | hy
  · exact h hp y (by simp)
  · exact k hp y hy
theorem lend_ptM {hp : Hp} {r off : Nat} {cs : List AV} (hr : hp r = some (true, cs)) (hall : cs.all plainM = true) : Lend hp (.pt r off) (.rp ((cs.map unf).drop off)) := by
  intro w0 mu N tm w phi ro v hS hv
  simp only [SimV] at hv ⊢
  obtain ⟨_, _, b, h1, h2, cur, e, h3⟩ := hv
  refine ⟨b, off, cur, e, (0, 0), h2, h3, lt_of_get h3, ?_⟩
  rcases hS.liv r _ hr with ⟨k1, _⟩ | ⟨b', cur', e', k1, k2, k3, k4, k5⟩ | ⟨b', o, k0, _⟩
  · have h1' : phi r = some b := h1
    rw [k1] at h1'; cases h1'
  · have h1' : phi r = some b := h1
    rw [k1] at h1'; cases h1'
    have h3' : w.heap[b]? = some (.cells cur e (0, 0)) := h3
    rw [k2] at h3'; cases h3'
    simp only [SimR, if_true] at k5
    exact (simL_rmp (C := (ctx w0 w ro phi ⟨fun _ => .any, hp⟩).out) (D := (ctxAll w).out) rfl (fun b hb => hS.rob b hb) hall k5).drop off
  · cases k0; simp [plainM] at hall
theorem outs_mp {r : Nat} {es : Array MapEntry} {clock : Nat} (hp : r < pbase) (hr : s.hp r = some (true, [.ob (.map es clock)])) : Outs s (.mp r) (.rmp true es clock) := by
  intro w0 N tm w phi ro y hS h
  simp only [SimV] at h ⊢
  obtain ⟨_, _, b, k1, k2⟩ := h
  obtain ⟨k3, k4'⟩ := ob_at' hS hr k1
  have k4 : r < pbase → w0.heap.size ≤ b := fun hp => (k4' hp).resolve_right fun h => by obtain ⟨_, _, h⟩ := h; cases h
  exact ⟨b, k2, k3, ⟨k4 hp, lt_of_get k3⟩, fun _ => k4 hp⟩
theorem outs_agg2 {a b a' b' : AV} (h1 : Outs s a a') (h2 : Outs s b b') : Outs s (.agg [a, b]) (.agg [a', b']) := by
  intro w0 N tm w phi ro y hS h
  simp only [SimV] at h ⊢
  obtain ⟨ar, k1, k2, k3⟩ := h
  obtain ⟨l⟩ := ar
  match l, k2, k3 with
  | [p, q], _, k3 =>
    simp only [SimL] at k3
    exact ⟨_, k1, rfl, by simp only [SimL, and_true]; exact ⟨h1 _ _ _ _ _ _ _ hS k3.1, h2 _ _ _ _ _ _ _ hS k3.2.1⟩⟩
/-- A region's beginning is handed out. -/
theorem outs_sl_take {r z n : Nat} {cs : List AV} (hr : s.hp r = some (true, cs)) (hl : n * z ≤ cs.length) (hall : cs.all plainV = true) :
    Outs s (.sl r z 0 n) (.ro true z (cs.take (n * z)) n) := by
  intro w0 N tm w phi ro y hS hy
  simp only [SimV] at hy ⊢
  rcases hy.2.2 with ⟨h1, _, rfl, rfl⟩ | ⟨b, o, cap, cur, e, h1, rfl, h3, h4, h5, h6, h7⟩
  · left
    exact ⟨rfl, by simp, none, 0, rfl, fun _ => ⟨rfl, rfl⟩⟩
  · right
    have ho : o = 0 := by
      rcases h4 with h4 | h4
      · exact h4
      · exact absurd h4.2 (Nat.lt_irrefl _)
    subst ho
    rcases hS.liv r _ hr with ⟨h8, _⟩ | ⟨b', cur', e', h8, h9, h10, h11, h12⟩ | ⟨b', o', _, h8, h9, h10, _⟩
    · have : phi r = some b := h1
      rw [h8] at this; cases this
    case inr.inr => exact ob_not_cells h8 h9 h10 h1 h3
    · have h1' : phi r = some b := h1
      rw [h8] at h1'
      cases h1'
      have h3' : w.heap[b]? = some (.cells cur e (0, 0)) := h3
      rw [h9] at h3'
      cases h3'
      have hb : w0.heap.size ≤ b := (h11.resolve_right fun h => by cases h.2).2.resolve_right fun h => by obtain ⟨_, _, h⟩ := h; cases h
      refine ⟨b, 0, cap, cur, e, (0, 0), rfl, h9, ⟨hb, lt_of_get h9⟩, by rw [List.length_take]; omega, h5, fun _ => ⟨hb, rfl, rfl, h6, by omega⟩, ?_⟩
      simp only [SimR, if_true] at h12
      rw [List.drop_zero]
      exact (simL_allv hall h12).take _
/-- An operation, something being forgotten first. -/
theorem step_opsW {o : AOper} {l : List AOper} {s' : AS} {Q : AS → Prop} (hw : Weak s s') (h : aop1 P own o s' fun s' => aops P own l s' Q) : aops P own (o :: l) s Q := ⟨s', hw, h⟩

/- Results of which some lie in cells. -/
inductive RV where
  | t (n : Nat)
  | c (a k : Nat)
def resG1 (P : Program) : ResultVar → Option RV
  | .tmp t => some (.t t)
  | .cell a t => (shapeT P t).bind fun k => k.map fun k => .c a k
def resG (P : Program) (fn : Func) : Option (List RV) := fn.results.toList.mapM (resG1 P)
def rvOk (s : AS) : RV → AV → Prop
  | .t n, x => s.tm n = x
  | .c a k, x => ∃ r off fl cs, s.tm a = .pt r off ∧ s.hp r = some (fl, cs) ∧ off + k ≤ cs.length ∧ x = .agg ((cs.drop off).take k)
def rvsOk (s : AS) : List RV → List AV → Prop
  | [], [] => True
  | r :: rs, x :: xs => rvOk s r x ∧ rvsOk s rs xs
  | _, _ => False
def tupAV : List AV → AV
  | [x] => x
  | xs => .tup xs
def DoneG (rs : List RV) (res : AV) : Exit → AS → Prop
  | .normal, s | .ret, s => ∃ xs, rvsOk s rs xs ∧ Outs s (tupAV xs) res
  | _, _ => False
theorem rv_run {w w' : World} {mu : Nat → Option Nat} {a' : Act} {phi : Nat → Option Nat} {ro : Nat → Prop} (hS : Sim w mu N s a'.tmps w' phi ro) {r : ResultVar} {rv : RV} {x : AV} (h1 : resG1 P r = some rv) (h2 : rvOk s rv x) :
    ∃ y, (resOne a'.tmps r).run P w' = .ok y w' ∧ SimV x (ctx w w' ro phi s) y := by
  cases r with
  | tmp t =>
    simp only [resG1, Option.some.injEq] at h1
    subst h1
    simp only [rvOk] at h2
    refine ⟨_, rfl, ?_⟩
    rw [← h2]
    exact hS.tms t
  | cell a t =>
    simp only [resG1] at h1
    rw [Option.bind_eq_some_iff] at h1
    obtain ⟨k0, hk0, h1⟩ := h1
    rw [Option.map_eq_some_iff] at h1
    obtain ⟨k, rfl, rfl⟩ := h1
    obtain ⟨r, off, fl, cs, hta, hra, hle, rfl⟩ := h2
    obtain ⟨dd, i, ht, hi, hik, hdd⟩ := shapeT_some hk0
    have hv := hS.tms a
    rw [hta] at hv
    simp only [SimV] at hv
    obtain ⟨_, _, b, hb', hy, cur1, e1, hcell1⟩ := hv
    obtain ⟨cur, e0, hcell, hsim, _⟩ := hS.cell hra hb' hcell1
    have hl := hsim.list
    have hlen := hl.length_le
    simp only [Array.length_toList] at hlen
    have hcell' : w'.heap[b]? = some (.cells cur e0 (0, 0)) := hcell
    have hld : (loadVar t ⟨b, off, none⟩).run P w' = .ok (.agg ((cur.toList.drop off).take k).toArray) w' := by
      have hrun := run_load_agg (P := P) (w := w') (b := b) (off := off) ht hi hdd hcell' (by omega)
      rw [hik] at hrun
      simpa [Instr.loadAt, Instr.sureAddr] using hrun
    refine ⟨.agg ((cur.toList.drop off).take k).toArray, by simp [resOne, hy, asAddr, hld], ?_⟩
    simp only [SimV]
    refine ⟨_, rfl, by simp; omega, ?_⟩
    exact ((hl.drop off).take k).shorter k (by simp; omega)
theorem rvs_run {w w' : World} {mu : Nat → Option Nat} {a' : Act} {phi : Nat → Option Nat} {ro : Nat → Prop} (hS : Sim w mu N s a'.tmps w' phi ro) : ∀ {rs : List ResultVar} {rvs : List RV} {xs : List AV}, rs.mapM (resG1 P) = some rvs → rvsOk s rvs xs →
    ∃ ys, (rs.mapM (m := Sem) (resOne a'.tmps)).run P w' = .ok ys w' ∧ SimL xs (ctx w w' ro phi s) ys ∧ ys.length = xs.length
  | [], rvs, xs, h1, h2 => by
    simp at h1
    subst h1
    cases xs with
    | nil => exact ⟨[], by simp, by simp [SimL], rfl⟩
    | cons => exact h2.elim
  | r :: rs, rvs, xs, h1, h2 => by
    rw [List.mapM_cons] at h1
    simp only [Option.bind_eq_bind, Option.bind_eq_some_iff, Option.pure_def, Option.some.injEq] at h1
    obtain ⟨rv, g1, rvs', g2, rfl⟩ := h1
    cases xs with
    | nil => exact h2.elim
    | cons x xs =>
      obtain ⟨y, k1, k2⟩ := rv_run hS g1 h2.1
      obtain ⟨ys, k3, k4, k5⟩ := rvs_run hS g2 h2.2
      refine ⟨y :: ys, ?_, ?_, by simp [k5]⟩
      · rw [List.mapM_cons]
        simp only [Sem.run_bind, k1, Result.andThen_ok, k3, Sem.run_pure]
      · simp only [SimL]; exact ⟨k2, k4⟩
theorem specG_of {f : FuncId} {fn : Func} {code : Code} {ac : ACode} {rvs : List RV} {asx : List AV} {res : AV} (hf : P.funcs[f]? = some fn) (hb : fn.body = some code) (hc : ccode P (min fn.ntmps pbase) code = some ac) (hr : resG P fn = some rvs)
    (h : AW P (min fn.ntmps pbase) ac (enter0 asx) (DoneG rvs res)) : Sp P f asx res := by
  intro w vs hg hent
  refine calls_of_wp hf hb (wp_mono (h code hc w (fun _ => none) _ w ⟨rfl, _, _, enter0_sim hg hent⟩) fun e a' w' hA => ?_)
  obtain ⟨s', h1, hf', phi, ro, hS⟩ := hA
  have fin : (∃ xs, rvsOk s' rvs xs ∧ Outs s' (tupAV xs) res) → a'.defers = [] ∧ ∃ v, (results fn a'.tmps).run P w' = .ok v w' ∧ ∃ v', Ending.returned v = .returned v' ∧ More w w' ∧ SimV res (fresh w w') v' := by
    rintro ⟨xs, hx, ho⟩
    obtain ⟨ys, k1, k2, k3⟩ := rvs_run hS hr hx
    have hr0 : results fn a'.tmps = (do let vs ← fn.results.mapM (resOne a'.tmps); pure (if h : vs.size = 1 then vs[0] else .tuple vs)) := rfl
    have hm : (fn.results.mapM (m := Sem) (resOne a'.tmps)).run P w' = .ok ys.toArray w' := by
      rw [Array.mapM_eq_mapM_toList, Sem.run_map, k1]
      rfl
    refine ⟨hf', if h : ys.toArray.size = 1 then ys.toArray[0] else .tuple ys.toArray, ?_, _, rfl, ⟨hS.os, hS.tape, hS.output, hS.size, fun b hb => hS.kept b hb (fun r => by simp)⟩, ho w (min fn.ntmps pbase) a'.tmps w' phi ro _ hS ?_⟩
    · rw [hr0, Sem.run_bind, hm]
      simp
    · match xs, ys, k2, k3 with
      | [x], [y], k2, _ =>
        simp only [SimL] at k2
        simpa [tupAV] using k2.1
      | [], [], _, _ => simp [tupAV, SimV, SimL]
      | x :: x' :: xs, y :: y' :: ys, k2, k3 =>
        simp only [tupAV, SimV]
        refine ⟨(y :: y' :: ys).toArray, by simp, by simpa using k3, k2⟩
  cases e with
  | normal => exact fin h1
  | ret => exact fin h1
  | exit id => exact h1.elim
  | goto l => exact h1.elim
  | panic c => exact h1.elim
  | outgrown => exact h1.elim
/-- The end of a function with a struct in a variable, and one value more. -/
theorem ret_doneg2 {a k t r : Nat} {fl : Bool} {cs : List AV} {res : AV} (h1 : s.tm a = .pt r 0) (h2 : s.hp r = some (fl, cs)) (h3 : cs.length = k) (h4 : Outs s (.tup [.agg cs, s.tm t]) res) : DoneG [.c a k, .t t] res .ret s :=
  ⟨[.agg cs, s.tm t], ⟨⟨r, 0, fl, cs, h1, h2, by omega, by rw [List.drop_zero, List.take_of_length_le (by omega)]⟩, rfl, trivial⟩, h4⟩
end Go.Am
namespace Go.Am
variable [Go.Am.CodeBlk]
variable {P : Program} {own : Bool} {N : Nat} {s : AS} {K : AS → Prop} {d : Option Nat}
theorem look_isSome {β : Type} {l : List (Nat × β)} {t : Nat} : (look l t).isSome = true ↔ t ∈ l.map (·.1) := by
  induction l with
  | nil => simp [look]
  | cons p l ih =>
    obtain ⟨k, x⟩ := p
    simp only [look, List.map_cons, List.mem_cons]
    by_cases e : t = k
    · simp [e]
    · rw [if_neg e, ih]; simp [e]
theorem look_inj {g : Nat → Nat} : ∀ {l : List (Nat × (Bool × List AV))} {r r' : Nat}, (l.map fun p => g p.1).Nodup → r ∈ l.map (·.1) → r' ∈ l.map (·.1) → g r = g r' → r = r'
  | [], _, _, _, h, _, _ => by simp at h
  | (k, x) :: l, r, r', hn, h1, h2, e => by
    simp only [List.map_cons, List.nodup_cons, List.mem_cons] at hn h1 h2
    have key : ∀ q, q ∈ l.map (·.1) → g q ∈ l.map fun p => g p.1 := fun q hq => by
      obtain ⟨p, hp, rfl⟩ := List.mem_map.1 hq
      exact List.mem_map.2 ⟨p, hp, rfl⟩
    rcases h1 with rfl | h1
    · rcases h2 with rfl | h2
      · rfl
      · exact absurd (e ▸ key _ h2) hn.1
    · rcases h2 with rfl | h2
      · exact absurd (e ▸ key _ h1) hn.1
      · exact look_inj hn.2 h1 h2 e
/-- Each region of a list is there, under its name. -/
def HasI (s : AS) (g : Nat → Nat) : List (Nat × (Bool × List AV)) → Prop
  | [] => True
  | (r, c) :: l => s.hp (g r) = some (renR g c) ∧ HasI s g l
def HasO (s : AS) (g : Nat → Nat) : List (Nat × (Bool × List AV)) → Prop
  | [] => True
  | (r, c) :: l => (∃ c0, s.hp (g r) = some c0 ∧ (c0 = renR g c ∨ (c.2 = [] ∧ c0.2 = []))) ∧ HasO s g l
theorem HasI.all {g : Nat → Nat} : ∀ {l : List (Nat × (Bool × List AV))}, HasI s g l → ∀ p ∈ l, s.hp (g p.1) = some (renR g p.2)
  | [], _, _, hp => by simp at hp
  | _ :: _, h, p, hp => by
    rcases List.mem_cons.1 hp with rfl | hp
    · exact h.1
    · exact HasI.all h.2 p hp
theorem HasO.all {g : Nat → Nat} : ∀ {l : List (Nat × (Bool × List AV))}, HasO s g l → ∀ p ∈ l, ∃ c0, s.hp (g p.1) = some c0 ∧ (c0 = renR g p.2 ∨ (p.2.2 = [] ∧ c0.2 = []))
  | [], _, _, hp => by simp at hp
  | _ :: _, h, p, hp => by
    rcases List.mem_cons.1 hp with rfl | hp
    · exact h.1
    · exact HasO.all h.2 p hp
/-- Regions under other names; cells that lead nowhere stay asx they are. -/
def HasJ (s : AS) (f : Nat → Nat) : List (Nat × (Bool × List AV)) → Prop
  | [] => True
  | (r, (true, cs)) :: l => s.hp (f r) = some (true, cs) ∧ HasJ s f l
  | (r, (false, cs)) :: l => s.hp (f r) = some (false, renL f cs) ∧ HasJ s f l
theorem HasJ.at {f : Nat → Nat} : ∀ {h : List (Nat × (Bool × List AV))} {r : Nat} {c : Bool × List AV}, HasJ s f h → (r, c) ∈ h → ∃ c0, s.hp (f r) = some c0 ∧ cellsRen f c0 c
  | [], _, _, _, hm => by simp at hm
  | (k, (true, cs)) :: l, r, c, h, hm => by
    rcases List.mem_cons.1 hm with e | hm
    · cases e; exact ⟨_, h.1, .inl ⟨rfl, rfl⟩⟩
    · exact HasJ.at h.2 hm
  | (k, (false, cs)) :: l, r, c, h, hm => by
    rcases List.mem_cons.1 hm with e | hm
    · cases e; exact ⟨_, h.1, .inr ⟨rfl, .inl rfl⟩⟩
    · exact HasJ.at h.2 hm
/-- What is not told is forgotten, and what is told may get other names. -/
theorem weak_stR {l : List (Nat × AV)} {h : List (Nat × (Bool × List AV))} (f : Nat → Nat) (hl : HasF s f l) (hh : HasJ s f h) (hnd : (h.map fun p => f p.1).Nodup) (hpb : ∀ p ∈ h, (p.1 < pbase ∧ f p.1 < pbase) ∨ (pbase ≤ p.1 ∧ f p.1 = p.1))
    (hr : refsT (fun r => (look h r).isSome) l = true) (hrh : refsH (fun r => (look h r).isSome) h = true) : Weak s (st l h) := by
  refine weak_ren f (fun t => ?_) (fun r c' hc => hh.at (look_mem hc)) (fun r r' h1 h2 e => look_inj hnd (look_isSome.1 h1) (look_isSome.1 h2) e) (fun r hr' => ?_) (fun t => ?_) (fun r cs hc => ?_)
  · show (look l t).getD .any = .any ∨ s.tm t = renV f ((look l t).getD .any)
    cases hx : look l t with
    | none => exact .inl rfl
    | some x => exact .inr (look_hasF hl hx)
  · obtain ⟨p, hp, rfl⟩ := List.mem_map.1 (look_isSome.1 hr')
    exact hpb p hp
  · show refsV (fun r => (look h r).isSome) ((look l t).getD .any) = true
    cases hx : look l t with
    | none => rfl
    | some x => exact look_refs hr hx
  · have h1 : (false || refsL (fun r => (look h r).isSome) cs) = true := look_refsH hrh hc
    rw [Bool.false_or] at h1
    exact h1
end Go.Am
namespace Go.Am
variable [Go.Am.CodeBlk]
variable {P : Program} {own : Bool} {N : Nat} {s : AS} {K : AS → Prop} {d : Option Nat}
/-- An unsigned integer of sixteen bits. -/
abbrev AV.u (a : Nat) : AV := .v (.int .u16 (a : Int))
theorem wrap16 {a : Nat} (h : a < 65536) : IntKind.u16.wrap (a : Int) = (a : Int) := by
  have : IntKind.u16.wrap (a : Int) = (a : Int) % 65536 := by simp [IntKind.wrap, IntKind.bits, IntKind.signed]
  omega
theorem ofInt16 {a : Nat} (h : a < 65536) : (BitVec.ofInt IntKind.u16.bits (a : Int)).toNat = a := by
  show (BitVec.ofInt 16 (a : Int)).toNat = a
  rw [BitVec.ofInt_natCast, BitVec.toNat_ofNat]
  omega
theorem and16_lt {a b : Nat} (h : a < 65536) : a &&& b < 65536 := Nat.lt_of_le_of_lt Nat.and_le_left h
theorem or16_lt {a b : Nat} (h : a < 65536) (h2 : b < 65536) : a ||| b < 65536 := Nat.or_lt_two_pow (n := 16) h h2
theorem shl16_lt {k : Nat} (h : k < 16) : 1 <<< k < 65536 := by
  rw [Nat.one_shiftLeft]
  exact Nat.pow_lt_pow_right (by decide) h
section
variable {x y : Opd} {a b k : Nat}
theorem m_shr16 (hx : s.ev x = .u a) (hy : s.ev y = .i (k : Nat)) (hk : k < 16) (kk : K (s.put d (.u (a >>> k)))) : aop1 P own ⟨d, .bin .shr x y, none⟩ s K := by
  refine ⟨_, _, _, hx, hy, ?_, kk⟩
  have h1 : ¬ ((k : Nat) : Int) < 0 := by omega
  have h2 : min ((k : Nat) : Int).toNat IntKind.u16.bits = k := by show min _ 16 = k; omega
  show (if ((k : Nat) : Int) < 0 then none else some (Value.int .u16 ((a : Int).fdiv (2 ^ (min ((k : Nat) : Int).toNat IntKind.u16.bits))))) = _
  rw [if_neg h1, h2, Nat.shiftRight_eq_div_pow]
  congr 2
  rw [Int.fdiv_eq_ediv_of_nonneg _ (by exact Int.le_of_lt (Int.pow_pos (by decide)))]
  push_cast
  rfl
theorem m_shl16 (hx : s.ev x = .u 1) (hy : s.ev y = .i (k : Nat)) (hk : k < 16) (kk : K (s.put d (.u (1 <<< k)))) : aop1 P own ⟨d, .bin .shl x y, none⟩ s K := by
  refine ⟨_, _, _, hx, hy, ?_, kk⟩
  have h1 : ¬ ((k : Nat) : Int) < 0 := by omega
  have h2 : min ((k : Nat) : Int).toNat IntKind.u16.bits = k := by show min _ 16 = k; omega
  show (if ((k : Nat) : Int) < 0 then none else some (Value.int .u16 (IntKind.u16.wrap ((1 : Int) * 2 ^ (min ((k : Nat) : Int).toNat IntKind.u16.bits))))) = _
  rw [if_neg h1, h2]
  congr 2
  have : ((1 : Int) * (2 : Int) ^ k) = ((1 <<< k : Nat) : Int) := by rw [Nat.one_shiftLeft, Int.one_mul]; push_cast; rfl
  exact (congrArg _ this).trans (wrap16 (shl16_lt hk))
theorem m_and16 (hx : s.ev x = .u a) (hy : s.ev y = .u b) (ha : a < 65536) (hb : b < 65536) (kk : K (s.put d (.u (a &&& b)))) : aop1 P own ⟨d, .bin .and x y, none⟩ s K := by
  refine ⟨_, _, _, hx, hy, ?_, kk⟩
  show some (Value.int .u16 (IntKind.u16.wrap ((BitVec.ofInt IntKind.u16.bits (a : Int) &&& BitVec.ofInt IntKind.u16.bits (b : Int)).toNat : Int))) = _
  rw [BitVec.toNat_and, ofInt16 ha, ofInt16 hb, wrap16 (and16_lt ha)]
theorem m_or16 (hx : s.ev x = .u a) (hy : s.ev y = .u b) (ha : a < 65536) (hb : b < 65536) (kk : K (s.put d (.u (a ||| b)))) : aop1 P own ⟨d, .bin .or x y, none⟩ s K := by
  refine ⟨_, _, _, hx, hy, ?_, kk⟩
  show some (Value.int .u16 (IntKind.u16.wrap ((BitVec.ofInt IntKind.u16.bits (a : Int) ||| BitVec.ofInt IntKind.u16.bits (b : Int)).toNat : Int))) = _
  rw [BitVec.toNat_or, ofInt16 ha, ofInt16 hb, wrap16 (or16_lt ha hb)]
theorem m_eql16 (hx : s.ev x = .u a) (hy : s.ev y = .u b) (kk : K (s.put d (.b (decide (a = b))))) : aop1 P own ⟨d, .bin .eql x y, none⟩ s K := by
  refine ⟨_, _, _, hx, hy, rfl, ?_⟩
  rw [show (((a : Nat) : Int) == ((b : Nat) : Int)) = decide (a = b) from by rw [Bool.eq_iff_iff]; simp; omega]
  exact kk
theorem m_and16_1 (hx : s.ev x = .u a) (hy : s.ev y = .u 1) (ha : a < 65536) (kk : K (s.put d (.u (a &&& 1)))) : aop1 P own ⟨d, .bin .and x y, none⟩ s K := m_and16 hx hy ha (by decide) kk
theorem m_eql16_1 (hx : s.ev x = .u a) (hy : s.ev y = .u 1) (kk : K (s.put d (.b (decide (a = 1))))) : aop1 P own ⟨d, .bin .eql x y, none⟩ s K := m_eql16 hx hy kk
end
theorem bit_and (a k : Nat) : decide ((a >>> k) &&& 1 = 1) = a.testBit k := by
  rw [Nat.testBit, Nat.and_comm]
  have := Nat.one_and_eq_mod_two (a >>> k)
  rcases Nat.mod_two_eq_zero_or_one (a >>> k) with h | h <;> simp [this, h]
end Go.Am
namespace Go.Am
variable [Go.Am.CodeBlk]
mutual
/-- Exact values, and slices and pointers that are read, all through. -/
def readV : AV → Bool
  | .v _ => true
  | .ro fr _ cs _ => !fr && readL cs
  | .rp cs => readL cs
  | .any => false
  | .sl _ _ _ _ => false
  | .pt _ _ => false
  | .agg _ => false
  | .tup _ => false
  | .mp _ => false
  | .itr _ => false
  | .ob _ => false
  | .fn _ _ _ => false
  | .rmp _ _ _ => false
  | .fu _ _ _ => false
  | .mit _ _ _ _ _ => false
def readL : List AV → Bool
  | [] => true
  | a :: l => readV a && readL l
end
mutual
theorem SimV.read : ∀ (x : AV) (C D : Ctx) (y : Value), readV x = true → D.heap = C.heap → (∀ b, C.ro b → D.ro b) → SimV x C y → SimV x D y
  | .v _, _, _, _, _, _, _, h => by simpa only [SimV] using h
  | .ro fr z cs n, C, D, y, hr, hh, hro, h => by
    simp only [readV, Bool.and_eq_true, Bool.not_eq_true'] at hr
    simp only [SimV] at h ⊢
    rcases h with h | ⟨b, o, cap, cur, e, fz, h1, h2, h3, h4, h5, h6, h7⟩
    · exact .inl h
    · exact .inr ⟨b, o, cap, cur, e, fz, h1, by rw [hh]; exact h2, hro b h3, h4, h5, (fun e => by rw [hr.1] at e; cases e), SimL.read cs C.out D.out _ hr.2 hh hro h7⟩
  | .rp cs, C, D, y, hr, hh, hro, h => by
    simp only [readV] at hr
    simp only [SimV] at h ⊢
    obtain ⟨b, o, cur, e, fz, h1, h2, h3, h4⟩ := h
    exact ⟨b, o, cur, e, fz, h1, by rw [hh]; exact h2, hro b h3, SimL.read cs C.out D.out _ hr hh hro h4⟩
  | .any, _, _, _, hr, _, _, _ => by simp [readV] at hr
  | .sl _ _ _ _, _, _, _, hr, _, _, _ => by simp [readV] at hr
  | .pt _ _, _, _, _, hr, _, _, _ => by simp [readV] at hr
  | .agg _, _, _, _, hr, _, _, _ => by simp [readV] at hr
  | .tup _, _, _, _, hr, _, _, _ => by simp [readV] at hr
  | .mp _, _, _, _, hr, _, _, _ => by simp [readV] at hr
  | .itr _, _, _, _, hr, _, _, _ => by simp [readV] at hr
  | .ob _, _, _, _, hr, _, _, _ => by simp [readV] at hr
  | .fn _ _ _, _, _, _, hr, _, _, _ => by simp [readV] at hr
  | .rmp _ _ _, _, _, _, hr, _, _, _ => by simp [readV] at hr
  | .fu _ _ _, _, _, _, hr, _, _, _ => by simp [readV] at hr
  | .mit _ _ _ _ _, _, _, _, hr, _, _, _ => by simp [readV] at hr
theorem SimL.read : ∀ (l : List AV) (C D : Ctx) (ys : List Value), readL l = true → D.heap = C.heap → (∀ b, C.ro b → D.ro b) → SimL l C ys → SimL l D ys
  | [], _, _, _, _, _, _, _ => by simp [SimL]
  | _ :: _, _, _, [], _, _, _, h => by simp [SimL] at h
  | a :: l, C, D, y :: ys, hr, hh, hro, h => by
    simp only [readL, Bool.and_eq_true] at hr
    simp only [SimL] at h ⊢
    exact ⟨SimV.read a C D y hr.1 hh hro h.1, SimL.read l C D ys hr.2 hh hro h.2⟩
end
end Go.Am
namespace Go.Am
variable [Go.Am.CodeBlk]
/-- One new map. -/
abbrev oneM (es : Array MapEntry) (ck : Nat) : List (Nat × (Bool × List AV)) := [(nbase, (true, [.ob (.map es ck)]))]
theorem spH_clone {P : Program} {f : FuncId} (h : ∀ (b : Nat) (es : Array MapEntry) (clock : Nat) (w : World), w.heap[b]? = some (.map es clock) → Calls P f #[.map (some b)] w fun e w' => e = .returned (.map (some w.heap.size)) ∧ w' = w.alloc (.map es clock))
    (es : Array MapEntry) (ck : Nat) : SpH P f [.rmp false es ck] (fun _ => none) (.mp nbase) (look (oneM es ck)) := by
  intro w vs phi _ _ _ _ hs hl
  obtain ⟨l⟩ := vs
  match l with
  | [] => simp at hl
  | _ :: _ :: _ => simp at hl
  | [a] =>
    simp only [SimL, SimV, and_true] at hs
    obtain ⟨b, rfl, hb, _, _⟩ := hs
    refine (h b es ck w hb).mono fun e w' hp => ?_
    obtain ⟨rfl, rfl⟩ := hp
    refine ⟨_, fun r => if r = nbase then some w.heap.size else none, rfl, rfl, rfl, rfl, by simp, fun r hr => by simp at hr, fun b hb _ => heap_alloc_old w _ hb, fun b cur e fz hb => ⟨cur, (heap_alloc_old w _ (lt_of_get hb)).trans hb, rfl⟩, ?_, ?_, ?_, ?_⟩
    · intro r r' b h1 h2 e1 e2
      have k1 := look_isSome.1 h1
      have k2 := look_isSome.1 h2
      simp at k1 k2
      rw [k1, k2]
    · intro r b h1 _ e1
      have e1 : (if r = nbase then some w.heap.size else none) = some b := e1
      split at e1
      · cases e1; exact Nat.le_refl _
      · cases e1
    · intro r c hc
      have hm := look_mem hc
      simp at hm
      obtain ⟨rfl, rfl⟩ := hm
      exact .inr (.inr ⟨w.heap.size, .map es ck, rfl, (if_pos rfl : (if nbase = nbase then some w.heap.size else none) = some w.heap.size), heap_alloc_new w _, rfl⟩)
    · simp only [SimV]
      exact ⟨rfl, rfl, w.heap.size, (if_pos rfl : (if nbase = nbase then some w.heap.size else none) = some w.heap.size), rfl⟩
/-- A map is cloned, into a region q. -/
theorem m_clone {P : Program} {s : AS} {K : AS → Prop} {d : Option Nat} {f : FuncId} {x : Opd} {es : Array MapEntry} {ck : Nat} (q : Nat) (hs : SpH P f [.rmp false es ck] (fun _ => none) (.mp nbase) (look (oneM es ck))) (hx : MapAt s (s.ev x) es ck)
    (hq : s.hp q = none) (hqp : q < pbase) (k : K ((s.mem q (true, [.ob (.map es ck)])).put d (.mp q))) : aop1 P true ⟨d, .call f [x], none⟩ s K := by
  have hl : Lends s.hp [s.ev x] [.rmp false es ck] := by
    rcases hx with ⟨r, h1, h2⟩ | ⟨fr, h1⟩
    · rw [h1]; exact lends_cons (lend_map h2) lends_nil
    · rw [h1]; exact lends_cons lend_rmp lends_nil
  have hg : ∀ r, ((look (oneM es ck)) r).isSome = true → r = nbase := fun r hr => by have := look_isSome.1 hr; simpa using this
  refine m_callh (hp' := (s.mem q (true, [.ob (.map es ck)])).hp) (fun _ => q) hs (lendsH_none hl) ⟨fun r c h => by simp at h, fun r r' h1 h2 _ => by rw [hg r h1, hg r' h2], fun r h => by simp at h, fun r _ _ => ⟨hq, hqp⟩, fun r c hc => ?_, fun p hp => ?_, fun r c h => by simp at h, fun r c hc => ?_, rfl⟩ k
  · have hm := look_mem hc
    simp at hm
    obtain ⟨rfl, rfl⟩ := hm
    simp [AS.mem]; rfl
  · have : p ≠ q := fun e => hp nbase rfl e.symm
    simp [AS.mem, this]
  · have hm := look_mem hc
    simp at hm
    obtain ⟨rfl, rfl⟩ := hm
    rfl
end Go.Am
namespace Go.Proofs.YtmifianbkpiifaaDoor
variable [Go.Am.CodeBlk]
open Go.Am
def cloneRenP : Go.Shelf.Ren := ⟨fun | 5 => 50 | 7 => 60 | n => n, fun | 4 => 4 | 20 => 20 | 23 => 39 | 25 => 46 | 3 => 4 | n => n, fun n => n⟩
theorem cloneLayP : SlLaysW.n5 Tryd.prog cloneRenP := {
  mixed := by kernel_rfl
  f5 := ⟨Tryd.f50.name, by kernel_rfl, Tryd.func50.trans (congrArg some (by kernel_rfl))⟩
  f7 := Tryd.func60.trans (congrArg some (by kernel_rfl))
  t4 := Tryd.underlying4
  a4 := Tryd.isAgg4
  z4 := Tryd.sizeOf4
  v4 := Tryd.zeroValue4
  t20 := Tryd.underlying20
  a20 := Tryd.isAgg20
  z20 := Tryd.sizeOf20
  v20 := Tryd.zeroValue20
  t23 := Tryd.underlying39
  a23 := Tryd.isAgg39
  z23 := Tryd.sizeOf39
  v23 := Tryd.zeroValue39 }
theorem clonePlaces_spec (es : Array MapEntry) (ck : Nat) : SpH Tryd.prog 50 [.rmp false es ck] (fun _ => none) (.mp nbase) (Am.look (oneM es ck)) :=
  spH_clone (fun b es clock w hb => AnyW.maps_Clone cloneLayP b es clock w hb) es ck
def cloneRenW : Go.Shelf.Ren := ⟨fun | 5 => 51 | 7 => 60 | n => n, fun | 4 => 4 | 20 => 20 | 23 => 64 | 25 => 63 | 3 => 3 | n => n, fun n => n⟩
theorem cloneLayW : SlLaysW.n5 Tryd.prog cloneRenW := {
  mixed := by kernel_rfl
  f5 := ⟨Tryd.f51.name, by kernel_rfl, Tryd.func51.trans (congrArg some (by kernel_rfl))⟩
  f7 := Tryd.func60.trans (congrArg some (by kernel_rfl))
  t4 := Tryd.underlying4
  a4 := Tryd.isAgg4
  z4 := Tryd.sizeOf4
  v4 := Tryd.zeroValue4
  t20 := Tryd.underlying20
  a20 := Tryd.isAgg20
  z20 := Tryd.sizeOf20
  v20 := Tryd.zeroValue20
  t23 := Tryd.underlying64
  a23 := Tryd.isAgg64
  z23 := Tryd.sizeOf64
  v23 := Tryd.zeroValue64 }
theorem cloneWays_spec (es : Array MapEntry) (ck : Nat) : SpH Tryd.prog 51 [.rmp false es ck] (fun _ => none) (.mp nbase) (Am.look (oneM es ck)) :=
  spH_clone (fun b es clock w hb => AnyW.maps_Clone cloneLayW b es clock w hb) es ck
end Go.Proofs.YtmifianbkpiifaaDoor
