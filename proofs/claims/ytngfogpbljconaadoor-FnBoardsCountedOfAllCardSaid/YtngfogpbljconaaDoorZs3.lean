/- The abstract machine, contracts: part 3 of what this claim needs. -/
import Derived.Test.YtngfogpbljconaaDoorZs2
set_option linter.unusedSectionVars false
namespace Go.Am
variable [Go.Am.CodeBlk]
variable {P : Program} {own : Bool} {N : Nat} {s : AS} {K : AS → Prop} {d : Option Nat}
mutual
/-- Read under other names. -/
theorem simV_ren (f : Nat → Nat) (C D : Ctx) (h1 : C.heap = D.heap) (h2 : C.ro = D.ro) (hb : C.base = D.base) (h3 : C.loc = D.loc) (h4 : ∀ r, C.live r = true → C.phi r = D.phi (f r)) :
    ∀ (x : AV) (y : Value), refsV C.live x = true → SimV (renV f x) D y → SimV x C y
  | .any, _, _, _ => by simp [SimV]
  | .v x, _, _, h => by simpa [SimV, renV] using h
  | .ro fr z cs n, y, _, h => by
    simp only [SimV, renV] at h ⊢
    rw [h1, h2, hb]
    refine h.imp_right fun ⟨b, o, cap, cur, e, fz, k1, k2, k3, k4, k5, k6, k7⟩ => ⟨b, o, cap, cur, e, fz, k1, k2, k3, k4, k5, k6, ?_⟩
    exact SimL.mono _ _ _ _ ⟨fun b hb => ⟨by rw [show C.out.ro = C.ro from rfl, h2]; exact hb, by show C.heap[b]? = D.heap[b]?; rw [h1]⟩, by show C.base ≤ D.base; omega, fun e => by simp [Ctx.out] at e, fun e => by simp [Ctx.out] at e, fun e => by simp [Ctx.out] at e⟩ k7
  | .rp cs, y, _, h => by
    simp only [SimV, renV] at h ⊢
    rw [h1, h2]
    obtain ⟨b, o, cur, e, fz, k1, k2, k3, k4⟩ := h
    refine ⟨b, o, cur, e, fz, k1, k2, k3, ?_⟩
    exact SimL.mono _ _ _ _ ⟨fun b hb => ⟨by rw [show C.out.ro = C.ro from rfl, h2]; exact hb, by show C.heap[b]? = D.heap[b]?; rw [h1]⟩, by show C.base ≤ D.base; omega, fun e => by simp [Ctx.out] at e, fun e => by simp [Ctx.out] at e, fun e => by simp [Ctx.out] at e⟩ k4
  | .sl r z off n, y, hr, h => by
    simp only [SimV, renV, refsV] at h hr ⊢
    obtain ⟨k1, k2, k3⟩ := h
    refine ⟨h3.trans k1, hr, ?_⟩
    rw [h4 r hr, h1]
    exact k3
  | .pt r off, y, hr, h => by
    simp only [SimV, renV, refsV] at h hr ⊢
    obtain ⟨k1, k2, b, k3, k4⟩ := h
    exact ⟨h3.trans k1, hr, b, by rw [h4 r hr]; exact k3, by rw [h1]; exact k4⟩
  | .mp r, y, hr, h => by
    simp only [SimV, renV, refsV] at h hr ⊢
    obtain ⟨k1, k2, b, k3, k4⟩ := h
    exact ⟨h3.trans k1, hr, b, by rw [h4 r hr]; exact k3, k4⟩
  | .itr r, y, hr, h => by
    simp only [SimV, renV, refsV] at h hr ⊢
    obtain ⟨k1, k2, b, k3, k4⟩ := h
    exact ⟨h3.trans k1, hr, b, by rw [h4 r hr]; exact k3, k4⟩
  | .ob o, y, _, h => by simp [SimV, renV] at h
  | .fn g l k, y, hr, h => by
    simp only [SimV, renV, refsV] at h hr ⊢
    obtain ⟨a, b, k1, k2, k3, k4⟩ := h
    rw [renL_map, List.length_map] at k3
    exact ⟨a, b, k1, k2, k3, simL_ren f C D h1 h2 hb h3 h4 l _ hr k4⟩
  | .fu z cs n, y, _, h => by
    simp only [SimV, renV] at h ⊢
    rw [h1, h2]
    refine h.imp_right fun ⟨b, o, cur, e, fz, k1, k2, k3, k4, k5⟩ => ⟨b, o, cur, e, fz, k1, k2, k3, k4, ?_⟩
    exact SimL.mono _ _ _ _ ⟨fun b hb => ⟨by rw [show C.out.ro = C.ro from rfl, h2]; exact hb, by show C.heap[b]? = D.heap[b]?; rw [h1]⟩, by show C.base ≤ D.base; omega, fun e => by simp [Ctx.out] at e, fun e => by simp [Ctx.out] at e, fun e => by simp [Ctx.out] at e⟩ k5
  | .mit r m bm es ck, y, hr, h => by
    simp only [SimV, renV, refsV, Bool.and_eq_true] at h hr ⊢
    obtain ⟨k1, k2, ⟨b, k3, k4⟩, k5⟩ := h
    refine ⟨h3.trans k1, hr.1, ⟨b, by rw [h4 r hr.1]; exact k3, k4⟩, ?_⟩
    rcases k5 with ⟨q, hq, k6, k7⟩ | ⟨hm, k6, k7⟩
    · obtain ⟨q0, rfl, rfl⟩ := Option.map_eq_some_iff.1 hq
      have hl : C.live q0 = true := by simpa using hr.2
      exact .inl ⟨q0, rfl, hl, by rw [h4 q0 hl]; exact k7⟩
    · exact .inr ⟨by simpa using hm, by rw [h2]; exact k6, by rw [h1]; exact k7⟩
  | .rmp fr es clock, y, _, h => by
    simp only [SimV, renV] at h ⊢
    obtain ⟨b, k1, k2, k3, k4⟩ := h
    exact ⟨b, k1, by rw [h1]; exact k2, by rw [h2]; exact k3, fun e => by rw [hb]; exact k4 e⟩
  | .agg l, y, hr, h => by
    simp only [SimV, renV, refsV] at h hr ⊢
    obtain ⟨a, k1, k2, k3⟩ := h
    rw [renL_map, List.length_map] at k2
    exact ⟨a, k1, k2, simL_ren f C D h1 h2 hb h3 h4 l _ hr k3⟩
  | .tup l, y, hr, h => by
    simp only [SimV, renV, refsV] at h hr ⊢
    obtain ⟨a, k1, k2, k3⟩ := h
    rw [renL_map, List.length_map] at k2
    exact ⟨a, k1, k2, simL_ren f C D h1 h2 hb h3 h4 l _ hr k3⟩
theorem simL_ren (f : Nat → Nat) (C D : Ctx) (h1 : C.heap = D.heap) (h2 : C.ro = D.ro) (hb : C.base = D.base) (h3 : C.loc = D.loc) (h4 : ∀ r, C.live r = true → C.phi r = D.phi (f r)) :
    ∀ (l : List AV) (ys : List Value), refsL C.live l = true → SimL (renL f l) D ys → SimL l C ys
  | [], _, _, _ => by simp [SimL]
  | _ :: _, [], _, h => by simp [SimL, renL] at h
  | a :: l, y :: ys, hr, h => by
    simp only [SimL, renL, refsL, Bool.and_eq_true] at h hr ⊢
    exact ⟨simV_ren f C D h1 h2 hb h3 h4 a y hr.1 h.1, simL_ren f C D h1 h2 hb h3 h4 l ys hr.2 h.2⟩
end
theorem simL_out_any (C D : Ctx) (h1 : C.heap = D.heap) (h2 : C.ro = D.ro) (hb : C.base = D.base) (l : List AV) (ys : List Value) (h : SimL l C.out ys) : SimL l D.out ys :=
  SimL.mono _ _ _ _ ⟨fun b hb' => ⟨by rw [show D.out.ro = D.ro from rfl, ← h2]; exact hb', by show D.heap[b]? = C.heap[b]?; rw [h1]⟩, by show D.base ≤ C.base; omega, fun e => by simp [Ctx.out] at e, fun e => by simp [Ctx.out] at e, fun e => by simp [Ctx.out] at e⟩ h
/-- A region's cells under other names; one whose cells lead nowhere may be told asx one whose cells may. -/
def cellsRen (f : Nat → Nat) (c c' : Bool × List AV) : Prop := (c'.1 = true ∧ c = (true, c'.2)) ∨ (c'.1 = false ∧ (c = (false, renL f c'.2) ∨ (c'.2 = [] ∧ c.2 = []) ∨ (c = (true, c'.2) ∧ c'.2.all plainV = true)))
/-- THE RULE OF FORGETTING: the state s' tells no more than s, under the names f. -/
theorem weak_ren {s s' : AS} (f : Nat → Nat) (htm : ∀ t, s'.tm t = .any ∨ s.tm t = renV f (s'.tm t)) (hhp : ∀ r c', s'.hp r = some c' → ∃ c, s.hp (f r) = some c ∧ cellsRen f c c')
    (hinj : ∀ r r', (s'.hp r).isSome = true → (s'.hp r').isSome = true → f r = f r' → r = r') (hpb : ∀ r, (s'.hp r).isSome = true → (r < pbase ∧ f r < pbase) ∨ (pbase ≤ r ∧ f r = r))
    (href : ∀ t, refsV (fun r => (s'.hp r).isSome) (s'.tm t) = true) (hrefh : ∀ r cs, s'.hp r = some (false, cs) → refsL (fun r => (s'.hp r).isSome) cs = true) : Weak s s' := by
  intro w0 mu N a w hS
  obtain ⟨hf, phi, ro, hS⟩ := hS
  have hlive : ∀ r, (s'.hp r).isSome = true → (s.hp (f r)).isSome = true := by
    intro r hr
    obtain ⟨c, hc⟩ := Option.isSome_iff_exists.1 hr
    obtain ⟨c0, h1, _⟩ := hhp r c hc
    rw [h1]; rfl
  refine ⟨hf, fun r => phi (f r), ro, { hS with
    inj := fun r r' b h1 h2 h3 h4 => hinj r r' h1 h2 (hS.inj _ _ b (hlive r h1) (hlive r' h2) h3 h4)
    liv := fun r c hc => ?_
    tms := fun t => ?_ }⟩
  · obtain ⟨c0, h1, h2⟩ := hhp r c hc
    have hp := hpb r (by rw [hc]; rfl)
    rcases hS.liv _ _ h1 with ⟨k1, k2, k3⟩ | ⟨b, cur, e, k1, k2, k3, k4, k5⟩ | ⟨b, o, rfl, k1, k2, k0, k3, k4⟩
    case inr.inr =>
      refine .inr (.inr ⟨b, o, ?_, k1, k2, k0, k3, ?_⟩)
      · obtain ⟨fl, cs⟩ := c
        rcases h2 with ⟨h3, h4⟩ | ⟨h3, h4⟩
        · simp only at h3 h4
          rw [h3]; exact h4.symm
        · simp only at h3
          rcases h4 with h4 | ⟨_, h4⟩ | ⟨h4, h5⟩
          · cases h4
          · simp at h4
          · simp only [Prod.mk.injEq, true_and] at h4
            rw [← h4] at h5
            simp [plainV] at h5
      · rcases hp with ⟨h3, h4⟩ | ⟨h3, h4⟩
        · rcases k4 with k4 | k4
          · exact .inl ⟨h3, k4.2⟩
          · omega
        · rcases k4 with k4 | k4
          · omega
          · exact .inr ⟨h3, by rw [← h4]; exact k4.2⟩
    · refine .inl ⟨k1, ?_, fun hge => ?_⟩
      · rcases h2 with ⟨_, rfl⟩ | ⟨_, rfl | ⟨h3, _⟩ | ⟨rfl, _⟩⟩
        · exact k2
        · simp only [renL_map] at k2
          exact List.map_eq_nil_iff.1 k2
        · exact h3
        · exact k2
      · rcases hp with ⟨h3, _⟩ | ⟨_, h3⟩
        · omega
        · rw [h3] at k3; exact k3 hge
    · refine .inr (.inl ⟨b, cur, e, k1, k2, k3, ?_, ?_⟩)
      · rcases hp with ⟨h3, h4⟩ | ⟨h3, h4⟩
        · rcases k4 with k4 | k4
          · exact .inl ⟨h3, k4.2⟩
          · omega
        · rcases k4 with k4 | k4
          · omega
          · exact .inr ⟨h3, by rw [← h4]; exact k4.2⟩
      · obtain ⟨fl, cs⟩ := c
        rcases h2 with ⟨h3, h4⟩ | ⟨h3, h4⟩
        · simp only at h3 h4
          subst h3; subst h4
          simp only [SimR, if_true] at k5 ⊢
          exact simL_out_any (ctx w0 w ro phi s) (ctx w0 w ro (fun r => phi (f r)) s') rfl rfl rfl _ _ k5
        · simp only at h3 h4
          subst h3
          simp only [SimR, Bool.false_eq_true, if_false]
          rcases h4 with rfl | ⟨h5, h6⟩ | ⟨rfl, h5⟩
          · simp only [SimR, Bool.false_eq_true, if_false] at k5
            exact simL_ren f (ctx w0 w ro (fun r => phi (f r)) s') (ctx w0 w ro phi s) rfl rfl rfl rfl (fun _ _ => rfl) cs _ (hrefh r cs hc) k5
          · rw [h5]; simp [SimL]
          · simp only [SimR, if_true] at k5
            exact simL_allv h5 k5
  · rcases htm t with h1 | h1
    · rw [h1]; simp [SimV]
    · have h2 := hS.tms t
      rw [h1] at h2
      exact simV_ren f (ctx w0 w ro (fun r => phi (f r)) s') (ctx w0 w ro phi s) rfl rfl rfl rfl (fun _ _ => rfl) _ _ (href t) h2
/-- The rows of a matrix, seen from the outer slice: regions b, b + 1, .. -/
def rowsC (b : Nat) : List (List Int) → List AV
  | [] => []
  | l :: rs => .sl b 1 0 l.length :: rowsC (b + 1) rs
theorem rowsC_len (b : Nat) (rows : List (List Int)) : (rowsC b rows).length = rows.length := by
  induction rows generalizing b with
  | nil => rfl
  | cons l rs ih => simp [rowsC, ih]
theorem rowsC_get (b : Nat) (rows : List (List Int)) (j : Nat) (hj : j < rows.length) : (rowsC b rows)[j]? = some (.sl (b + j) 1 0 (rows.getD j []).length) := by
  induction rows generalizing b j with
  | nil => simp at hj
  | cons l rs ih =>
    cases j with
    | zero => simp [rowsC]
    | succ j =>
      simp only [rowsC, List.getElem?_cons_succ]
      rw [ih (b + 1) j (by simpa using hj)]
      simp; omega
theorem rowsC_snoc (b : Nat) (rows : List (List Int)) (l : List Int) : rowsC b (rows ++ [l]) = rowsC b rows ++ [.sl (b + rows.length) 1 0 l.length] := by
  induction rows generalizing b with
  | nil => simp [rowsC]
  | cons r rs ih => simp only [List.cons_append, rowsC, ih]; congr 4; simp; omega
theorem rowsC_kill (r b : Nat) (rows : List (List Int)) (h : r < b) : killL r (rowsC b rows) = rowsC b rows := by
  induction rows generalizing b with
  | nil => rfl
  | cons l rs ih =>
    have : ¬ b = r := by omega
    simp only [rowsC, killL, killV, this, if_false]
    rw [ih (b + 1) (by omega)]
theorem rowsC_ren (f : Nat → Nat) (b b' : Nat) (rows : List (List Int)) (h : ∀ j, j < rows.length → f (b + j) = b' + j) : renL f (rowsC b rows) = rowsC b' rows := by
  induction rows generalizing b b' with
  | nil => rfl
  | cons l rs ih =>
    simp only [rowsC, renL, renV]
    have h0 := h 0 (by simp)
    rw [Nat.add_zero, Nat.add_zero] at h0
    rw [h0, ih (b + 1) (b' + 1) fun j hj => by
      have := h (j + 1) (by simpa using hj)
      rw [show b + 1 + j = b + (j + 1) by omega, this]; omega]
theorem rowsC_refs (keep : Nat → Bool) (b : Nat) (rows : List (List Int)) (h : ∀ j, j < rows.length → keep (b + j) = true) : refsL keep (rowsC b rows) = true := by
  induction rows generalizing b with
  | nil => rfl
  | cons l rs ih =>
    simp only [rowsC, refsL, refsV, Bool.and_eq_true]
    refine ⟨by have := h 0 (by simp); simpa using this, ih (b + 1) fun j hj => ?_⟩
    have := h (j + 1) (by simpa using hj)
    rw [show b + 1 + j = b + (j + 1) by omega]; exact this
theorem rowsC_own (b : Nat) (rows : List (List Int)) (q : Bool) : ownL q (rowsC b rows) = true := by
  induction rows generalizing b with
  | nil => rfl
  | cons l rs ih => simp only [rowsC, ownL, ownV, Bool.true_and]; exact ih _
/-- Regions: those of h, and the rows. -/
def famH (h : Hp) (b : Nat) (rows : List (List Int)) : Hp := fun r => match h r with
  | some c => some c
  | none => if b ≤ r ∧ r < b + rows.length then some (true, (rows.getD (r - b) []).map AV.i) else none
theorem famH_row {h : Hp} {b : Nat} {rows : List (List Int)} {j : Nat} (hn : h (b + j) = none) (hj : j < rows.length) : famH h b rows (b + j) = some (true, (rows.getD j []).map AV.i) := by
  unfold famH
  rw [hn]
  simp only
  rw [if_pos ⟨by omega, by omega⟩, Nat.add_sub_cancel_left]
theorem famH_some {h : Hp} {b : Nat} {rows : List (List Int)} {r : Nat} {c : Bool × List AV} (e : famH h b rows r = some c) : h r = some c ∨ (h r = none ∧ ∃ j, j < rows.length ∧ r = b + j ∧ c = (true, (rows.getD j []).map AV.i)) := by
  unfold famH at e
  cases hr : h r with
  | some c' => rw [hr] at e; exact .inl e
  | none =>
    rw [hr] at e
    simp only at e
    split at e
    · rename_i hh
      cases e
      exact .inr ⟨rfl, r - b, by omega, by omega, rfl⟩
    · cases e
/-- A state with a matrix: the outer slice lies in region r0, its rows in regions b, b + 1, .. -/
def stM (l : List (Nat × AV)) (h : List (Nat × (Bool × List AV))) (r0 b : Nat) (rows : List (List Int)) : AS :=
  ⟨fun t => (look l t).getD .any, famH (look ((r0, (false, rowsC b rows)) :: h)) b rows⟩
theorem look_none {β : Type} {l : List (Nat × β)} {t : Nat} (h : ∀ p ∈ l, p.1 < t) : look l t = none := by
  induction l with
  | nil => rfl
  | cons p l ih =>
    have h1 := h p (List.mem_cons_self ..)
    have : ¬ t = p.1 := by omega
    obtain ⟨k, x⟩ := p
    simp only [look]
    rw [if_neg this]
    exact ih fun q hq => h q (List.mem_cons_of_mem _ hq)
theorem look_mem {β : Type} {l : List (Nat × β)} {t : Nat} {x : β} (h : look l t = some x) : (t, x) ∈ l := by
  induction l with
  | nil => simp [look] at h
  | cons p l ih =>
    obtain ⟨k, y⟩ := p
    simp only [look] at h
    split at h
    · rename_i e; subst e; cases h; exact List.mem_cons_self ..
    · exact List.mem_cons_of_mem _ (ih h)
theorem stM_row {l : List (Nat × AV)} {h : List (Nat × (Bool × List AV))} {r0 b : Nat} {rows : List (List Int)} (hk : ((r0, (false, rowsC b rows)) :: h).all (fun p => decide (p.1 < b)) = true) {j : Nat} (hj : j < rows.length) :
    (stM l h r0 b rows).hp (b + j) = some (true, (rows.getD j []).map AV.i) :=
  famH_row (look_none fun p hp => by have := List.all_eq_true.1 hk p hp; have := of_decide_eq_true this; omega) hj
def HasF (s : AS) (f : Nat → Nat) : List (Nat × AV) → Prop
  | [] => True
  | (t, x) :: l => s.tm t = renV f x ∧ HasF s f l
def HasRF (s : AS) (f : Nat → Nat) : List (Nat × (Bool × List AV)) → Prop
  | [] => True
  | (r, c) :: l => s.hp (f r) = some c ∧ HasRF s f l
theorem look_hasF {s : AS} {f : Nat → Nat} : ∀ {l : List (Nat × AV)} {t : Nat} {x : AV}, HasF s f l → look l t = some x → s.tm t = renV f x
  | [], _, _, _, h => by simp [look] at h
  | (k, y) :: l, t, x, h, e => by
    simp only [look] at e
    split at e
    · rename_i hk; subst hk; cases e; exact h.1
    · exact look_hasF h.2 e
theorem look_hasRF {s : AS} {f : Nat → Nat} : ∀ {l : List (Nat × (Bool × List AV))} {r : Nat} {c : Bool × List AV}, HasRF s f l → look l r = some c → s.hp (f r) = some c
  | [], _, _, _, h => by simp [look] at h
  | (k, y) :: l, t, x, h, e => by
    simp only [look] at e
    split at e
    · rename_i hk; subst hk; cases e; exact h.1
    · exact look_hasRF h.2 e
def nodupB : List Nat → Bool
  | [] => true
  | x :: l => !(l.contains x) && nodupB l
theorem nodupB_spec : ∀ {l : List Nat}, nodupB l = true → l.Nodup
  | [], _ => by simp
  | x :: l, h => by
    simp only [nodupB, Bool.and_eq_true, Bool.not_eq_true'] at h
    rw [List.nodup_cons]
    exact ⟨fun hm => by rw [List.contains_iff_mem.2 hm] at h; simp at h, nodupB_spec h.2⟩
/-- The names of a state that tells a matrix: f0 below b; the rows asx g says. -/
def nmF (b : Nat) (f0 g : Nat → Nat) : Nat → Nat := fun r => if r < b then f0 r else g (r - b)
/-- A state with a matrix whose outer slice has the cells cs. -/
def stC (l : List (Nat × AV)) (h : List (Nat × (Bool × List AV))) (r0 : Nat) (cs : List AV) (b : Nat) (rows : List (List Int)) : AS :=
  ⟨fun t => (look l t).getD .any, famH (look ((r0, (false, cs)) :: h)) b rows⟩
theorem stC_row {l : List (Nat × AV)} {h : List (Nat × (Bool × List AV))} {r0 b : Nat} {cs : List AV} {rows : List (List Int)} (hk : ((r0, (false, cs)) :: h).all (fun p => decide (p.1 < b)) = true) {j : Nat} (hj : j < rows.length) :
    (stC l h r0 cs b rows).hp (b + j) = some (true, (rows.getD j []).map AV.i) :=
  famH_row (look_none fun p hp => by have := List.all_eq_true.1 hk p hp; have := of_decide_eq_true this; omega) hj
/-- Forgetting, to a state with a matrix whose rows are known under the names g. -/
theorem weak_matC {s : AS} {l : List (Nat × AV)} {h : List (Nat × (Bool × List AV))} {r0 b : Nat} {cs : List AV} {rows : List (List Int)} (f0 g : Nat → Nat)
    (hl : HasF s (nmF b f0 g) l) (hh : HasRF s (nmF b f0 g) h) (hflat : (h.all fun p => p.2.1) = true) (hk : (r0 :: h.map (·.1)).all (fun r => decide (r < b ∧ f0 r < b)) = true) (hpk : (r0 :: h.map (·.1)).all (fun r => decide ((r < pbase ∧ f0 r < pbase) ∨ (pbase ≤ r ∧ f0 r = r))) = true) (hpr : ∀ j, j < rows.length → (b + j < pbase ∧ g j < pbase) ∨ (pbase ≤ b + j ∧ g j = b + j)) (hr : refsT (fun r => (r0 :: h.map (·.1)).contains r) l = true)
    (h0 : ∃ c, s.hp (f0 r0) = some c ∧ cellsRen (nmF b f0 g) c (false, cs)) (hrefc : ∀ keep : Nat → Bool, (∀ j, j < rows.length → keep (b + j) = true) → refsL keep cs = true)
    (hrow : ∀ j, j < rows.length → s.hp (g j) = some (true, (rows.getD j []).map AV.i))
    (hndB : nodupB ((r0 :: h.map (·.1)).map f0) = true) (hg : ∀ j, j < rows.length → ∀ r ∈ (r0 :: h.map (·.1)), f0 r ≠ g j) (hgi : ∀ j j', j < rows.length → j' < rows.length → g j = g j' → j = j') : Weak s (stC l h r0 cs b rows) := by
  have hnd := nodupB_spec hndB
  have hkey : ∀ r c, look ((r0, (false, cs)) :: h) r = some c → r ∈ (r0 :: h.map (·.1)) := by
    intro r c hc
    have h1 : r ∈ ((r0, (false, cs)) :: h).map (·.1) := List.mem_map.2 ⟨(r, c), look_mem hc, rfl⟩
    simpa using h1
  have hklt : ∀ r ∈ (r0 :: h.map (·.1)), r < b ∧ f0 r < b := fun r hr => of_decide_eq_true (List.all_eq_true.1 hk r hr)
  have hall : ((r0, (false, cs)) :: h).all (fun p => decide (p.1 < b)) = true := by
    rw [List.all_eq_true]
    intro p hp
    exact decide_eq_true (hklt p.1 (List.mem_map.2 ⟨p, hp, rfl⟩)).1
  have hinj0 : ∀ r ∈ (r0 :: h.map (·.1)), ∀ r' ∈ (r0 :: h.map (·.1)), f0 r = f0 r' → r = r' := by
    generalize r0 :: h.map (·.1) = ks at hnd
    clear hkey hklt hg hr hk hpk hndB
    induction ks with
    | nil => intro r hr; simp at hr
    | cons k ks ih =>
      rw [List.map_cons, List.nodup_cons] at hnd
      intro r hr r' hr' e
      rcases List.mem_cons.1 hr with h1 | h1
      · rcases List.mem_cons.1 hr' with h2 | h2
        · rw [h1, h2]
        · rw [h1] at e
          exact absurd (List.mem_map.2 ⟨r', h2, e.symm⟩) hnd.1
      · rcases List.mem_cons.1 hr' with h2 | h2
        · rw [h2] at e
          exact absurd (List.mem_map.2 ⟨r, h1, e⟩) hnd.1
        · exact ih hnd.2 r h1 r' h2 e
  have hsome : ∀ r, ((stC l h r0 cs b rows).hp r).isSome = true → (r ∈ (r0 :: h.map (·.1)) ∧ nmF b f0 g r = f0 r) ∨ ∃ j, j < rows.length ∧ r = b + j ∧ nmF b f0 g r = g j := by
    intro r hr
    obtain ⟨c, hc⟩ := Option.isSome_iff_exists.1 hr
    rcases famH_some hc with h1 | ⟨_, j, hj, rfl, _⟩
    · have hm := hkey r c h1
      exact .inl ⟨hm, by unfold nmF; rw [if_pos (hklt r hm).1]⟩
    · exact .inr ⟨j, hj, rfl, by unfold nmF; rw [if_neg (by omega), Nat.add_sub_cancel_left]⟩
  have hlive : ∀ r, r ∈ (r0 :: h.map (·.1)) → ((stC l h r0 cs b rows).hp r).isSome = true := by
    intro r hr
    show (famH (look ((r0, (false, cs)) :: h)) b rows r).isSome = true
    have : ∃ c, look ((r0, (false, cs)) :: h) r = some c := by
      have key : ∀ l : List (Nat × (Bool × List AV)), r ∈ l.map (·.1) → ∃ c, look l r = some c := by
        intro l
        induction l with
        | nil => intro h; simp at h
        | cons p l ih =>
          intro h
          obtain ⟨k, y⟩ := p
          simp only [look]
          by_cases e : r = k
          · exact ⟨y, if_pos e⟩
          · rw [if_neg e]
            rw [List.map_cons, List.mem_cons] at h
            exact ih (h.resolve_left e)
      exact key _ (by simpa using hr)
    obtain ⟨c, hc⟩ := this
    unfold famH
    rw [hc]; rfl
  have hliveR : ∀ j, j < rows.length → ((stC l h r0 cs b rows).hp (b + j)).isSome = true := fun j hj => by rw [stC_row hall hj]; rfl
  refine weak_ren (nmF b f0 g) (fun t => ?_) (fun r c' hc => ?_) (fun r r' h1 h2 h3 => ?_) (fun r h1 => ?_) (fun t => ?_) (fun r cs' hc => ?_)
  · show (look l t).getD .any = .any ∨ s.tm t = renV _ ((look l t).getD .any)
    cases hx : look l t with
    | none => exact .inl rfl
    | some x => exact .inr (look_hasF hl hx)
  · rcases famH_some hc with h1 | ⟨h1, j, hj, rfl, rfl⟩
    · have hm := hkey r c' h1
      have hnm : nmF b f0 g r = f0 r := by unfold nmF; rw [if_pos (hklt r hm).1]
      simp only [look] at h1
      split at h1
      · rename_i e
        cases h1
        rw [hnm, e]
        exact h0
      · refine ⟨_, look_hasRF hh h1, .inl ⟨?_, ?_⟩⟩
        · exact List.all_eq_true.1 hflat _ (look_mem h1)
        · have := List.all_eq_true.1 hflat _ (look_mem h1)
          obtain ⟨fl, cs⟩ := c'
          simp only at this
          subst this; rfl
    · refine ⟨_, ?_, .inl ⟨rfl, rfl⟩⟩
      unfold nmF
      rw [if_neg (by omega), Nat.add_sub_cancel_left]
      exact hrow j hj
  · rcases hsome r h1 with ⟨m1, e1⟩ | ⟨j, hj, rfl, e1⟩
    · rcases hsome r' h2 with ⟨m2, e2⟩ | ⟨j', hj', rfl, e2⟩
      · rw [e1, e2] at h3
        exact hinj0 r m1 r' m2 h3
      · rw [e1, e2] at h3
        exact absurd h3 (hg j' hj' r m1)
    · rcases hsome r' h2 with ⟨m2, e2⟩ | ⟨j', hj', rfl, e2⟩
      · rw [e1, e2] at h3
        exact absurd h3.symm (hg j hj r' m2)
      · rw [e1, e2] at h3
        rw [hgi j j' hj hj' h3]
  · rcases hsome r h1 with ⟨m1, e1⟩ | ⟨j, hj, rfl, e1⟩
    · have := of_decide_eq_true (List.all_eq_true.1 hpk r m1)
      rw [e1]; exact this
    · rw [e1]; exact hpr j hj
  · show refsV _ ((look l t).getD .any) = true
    cases hx : look l t with
    | none => rfl
    | some x =>
      have h1 := look_refs hr hx
      have key := AV.rec_1 (motive_1 := fun x => refsV (fun r => (r0 :: h.map (·.1)).contains r) x = true → refsV (fun r => ((stC l h r0 cs b rows).hp r).isSome) x = true) (motive_2 := fun l' => refsL (fun r => (r0 :: h.map (·.1)).contains r) l' = true → refsL (fun r => ((stC l h r0 cs b rows).hp r).isSome) l' = true)
        (by simp [refsV]) (by simp [refsV]) (by intros; simp [refsV]) (by intros; simp [refsV]) (fun q _ _ _ hq => by simp only [refsV] at hq ⊢; exact hlive q (List.contains_iff_mem.1 hq))
        (fun q _ hq => by simp only [refsV] at hq ⊢; exact hlive q (List.contains_iff_mem.1 hq)) (fun l hl hq => by simp only [refsV] at hq ⊢; exact hl hq) (fun l hl hq => by simp only [refsV] at hq ⊢; exact hl hq)
        (fun q hq => by simp only [refsV] at hq ⊢; exact hlive q (List.contains_iff_mem.1 hq)) (fun q hq => by simp only [refsV] at hq ⊢; exact hlive q (List.contains_iff_mem.1 hq)) (by intros; simp [refsV]) (fun f l k hl hq => by simp only [refsV] at hq ⊢; exact hl hq) (by intros; simp [refsV]) (by intros; simp [refsV]) (fun q m _ _ _ hq => by
          simp only [refsV, Bool.and_eq_true] at hq ⊢
          refine ⟨hlive q (List.contains_iff_mem.1 hq.1), ?_⟩
          cases m with
          | none => rfl
          | some k => exact hlive k (List.contains_iff_mem.1 (by simpa using hq.2)))
        (by simp [refsL]) (fun a l ha hl hq => by simp only [refsL, Bool.and_eq_true] at hq ⊢; exact ⟨ha hq.1, hl hq.2⟩) [x]
      have := key (by simp only [refsL, Bool.and_eq_true, and_true]; exact h1)
      simp only [refsL, Bool.and_eq_true, and_true] at this
      exact this
  · rcases famH_some hc with h1 | ⟨_, j, _, _, h2⟩
    · simp only [look] at h1
      split at h1
      · cases h1
        exact hrefc _ hliveR
      · have := List.all_eq_true.1 hflat _ (look_mem h1)
        simp at this
    · cases h2
/-- Forgetting, to a state with a matrix whose rows are known under the names g. -/
theorem weak_mat {s : AS} {l : List (Nat × AV)} {h : List (Nat × (Bool × List AV))} {r0 b : Nat} {rows : List (List Int)} (f0 g : Nat → Nat)
    (hl : HasF s (nmF b f0 g) l) (hh : HasRF s (nmF b f0 g) h) (hflat : (h.all fun p => p.2.1) = true) (hk : (r0 :: h.map (·.1)).all (fun r => decide (r < b ∧ f0 r < b)) = true) (hpk : (r0 :: h.map (·.1)).all (fun r => decide ((r < pbase ∧ f0 r < pbase) ∨ (pbase ≤ r ∧ f0 r = r))) = true) (hpr : ∀ j, j < rows.length → (b + j < pbase ∧ g j < pbase) ∨ (pbase ≤ b + j ∧ g j = b + j)) (hr : refsT (fun r => (r0 :: h.map (·.1)).contains r) l = true)
    (h0 : ∃ fl cs, s.hp (f0 r0) = some (fl, cs) ∧ (fl = false ∧ cs = renL (nmF b f0 g) (rowsC b rows) ∨ rows = [] ∧ cs = []))
    (hrow : ∀ j, j < rows.length → s.hp (g j) = some (true, (rows.getD j []).map AV.i))
    (hndB : nodupB ((r0 :: h.map (·.1)).map f0) = true) (hg : ∀ j, j < rows.length → ∀ r ∈ (r0 :: h.map (·.1)), f0 r ≠ g j) (hgi : ∀ j j', j < rows.length → j' < rows.length → g j = g j' → j = j') : Weak s (stM l h r0 b rows) := by
  obtain ⟨fl, cs, h1, h2⟩ := h0
  refine weak_matC (cs := rowsC b rows) f0 g hl hh hflat hk hpk hpr hr ⟨_, h1, .inr ⟨rfl, ?_⟩⟩ (fun keep hkp => rowsC_refs _ _ _ hkp) hrow hndB hg hgi
  rcases h2 with ⟨rfl, rfl⟩ | ⟨h3, h4⟩
  · exact .inl rfl
  · exact .inr (.inl ⟨by show rowsC b rows = []; rw [h3]; rfl, h4⟩)
/-- Forgetting, the matrix being what it was. -/
theorem weak_keep {s : AS} {l : List (Nat × AV)} {h : List (Nat × (Bool × List AV))} {r0 b : Nat} {rows : List (List Int)} (f0 : Nat → Nat)
    (hl : HasF s (nmF b f0 fun j => b + j) l) (hh : HasRF s (nmF b f0 fun j => b + j) h) (hflat : (h.all fun p => p.2.1) = true) (hk : (r0 :: h.map (·.1)).all (fun r => decide (r < b ∧ f0 r < b)) = true)
    (hpk : (r0 :: h.map (·.1)).all (fun r => decide ((r < pbase ∧ f0 r < pbase) ∨ (pbase ≤ r ∧ f0 r = r))) = true) (hb : b + rows.length ≤ pbase ∨ pbase ≤ b) (hr : refsT (fun r => (r0 :: h.map (·.1)).contains r) l = true) (hndB : nodupB ((r0 :: h.map (·.1)).map f0) = true)
    {fl : Bool} {cs : List AV} (h0 : s.hp (f0 r0) = some (fl, cs)) (hcs : fl = false ∧ cs = rowsC b rows ∨ rows = [] ∧ cs = [])
    (hrow : ∀ j, j < rows.length → s.hp (b + j) = some (true, (rows.getD j []).map AV.i)) : Weak s (stM l h r0 b rows) := by
  refine weak_mat f0 (fun j => b + j) hl hh hflat hk hpk (fun j hj => by rcases hb with hb | hb; exact .inl ⟨by omega, by omega⟩; exact .inr ⟨by omega, rfl⟩) hr ⟨fl, cs, h0, ?_⟩ hrow hndB (fun j hj r hr => ?_) (fun j j' _ _ e => by omega)
  · rcases hcs with ⟨h1, h2⟩ | h1
    · exact .inl ⟨h1, by rw [h2, rowsC_ren _ b b]; intro j _; unfold nmF; rw [if_neg (by omega), Nat.add_sub_cancel_left]⟩
    · exact .inr h1
  · have := of_decide_eq_true (List.all_eq_true.1 hk r hr)
    omega
def gpush (b m q : Nat) : Nat → Nat := fun j => if j < m then b + j else q
theorem renL_append (f : Nat → Nat) (l m : List AV) : renL f (l ++ m) = renL f l ++ renL f m := by rw [renL_map, renL_map, renL_map, List.map_append]
/-- Forgetting, a region having become a row. -/
theorem weak_push {s : AS} {l : List (Nat × AV)} {h : List (Nat × (Bool × List AV))} {r0 b : Nat} {rows : List (List Int)} {row : List Int} (f0 : Nat → Nat) (q : Nat)
    (hl : HasF s (nmF b f0 (gpush b rows.length q)) l) (hh : HasRF s (nmF b f0 (gpush b rows.length q)) h) (hflat : (h.all fun p => p.2.1) = true) (hk : (r0 :: h.map (·.1)).all (fun r => decide (r < b ∧ f0 r < b)) = true)
    (hpk : (r0 :: h.map (·.1)).all (fun r => decide ((r < pbase ∧ f0 r < pbase) ∨ (pbase ≤ r ∧ f0 r = r))) = true) (hb : b + rows.length + 1 ≤ pbase) (hr : refsT (fun r => (r0 :: h.map (·.1)).contains r) l = true) (hndB : nodupB ((r0 :: h.map (·.1)).map f0) = true)
    (hqb : q < b) (hqn : ((r0 :: h.map (·.1)).map f0).contains q = false)
    {cs : List AV} (h0 : s.hp (f0 r0) = some (false, cs)) (hcs : cs = rowsC b rows ++ [.sl q 1 0 row.length]) (hq : s.hp q = some (true, row.map AV.i))
    (hrow : ∀ j, j < rows.length → s.hp (b + j) = some (true, (rows.getD j []).map AV.i)) : Weak s (stM l h r0 b (rows ++ [row])) := by
  have hlen : (rows ++ [row]).length = rows.length + 1 := by simp
  refine weak_mat f0 (gpush b rows.length q) hl hh hflat hk hpk (fun j hj => .inl ⟨by omega, by unfold gpush; split <;> omega⟩) hr ⟨false, cs, h0, .inl ⟨rfl, ?_⟩⟩ (fun j hj => ?_) hndB (fun j hj r hr => ?_) (fun j j' h1 h2 e => ?_)
  · rw [hcs, rowsC_snoc, renL_append, rowsC_ren _ b b]
    · simp only [renL, renV]
      unfold nmF gpush
      rw [if_neg (by omega), Nat.add_sub_cancel_left, if_neg (by omega)]
    · intro j hj
      unfold nmF gpush
      rw [if_neg (by omega), Nat.add_sub_cancel_left, if_pos hj]
  · unfold gpush
    by_cases hj' : j < rows.length
    · rw [if_pos hj', hrow j hj']
      simp [List.getElem?_append, hj']
    · have : j = rows.length := by omega
      subst this
      rw [if_neg hj', hq]
      simp
  · have := of_decide_eq_true (List.all_eq_true.1 hk r hr)
    unfold gpush
    split
    · omega
    · intro e
      have hm : q ∈ (r0 :: h.map (·.1)).map f0 := List.mem_map.2 ⟨r, hr, e⟩
      have := List.contains_iff_mem.2 hm
      rw [hqn] at this; cases this
  · unfold gpush at e
    split at e <;> split at e <;> omega
theorem hp_put (s : AS) (d : Option Nat) (x : AV) : (s.put d x).hp = s.hp := by cases d <;> rfl
theorem hp_mem_ne {s : AS} {q r : Nat} {c : Bool × List AV} (h : r ≠ q) : (s.mem q c).hp r = s.hp r := by simp [AS.mem, h]
theorem hp_kill_ne {s : AS} {q r : Nat} (h : r ≠ q) : (s.kill q).hp r = (s.hp r).map (killR q) := by simp [AS.kill, h]
end Go.Am
namespace Go.Am
variable [Go.Am.CodeBlk]
variable {P : Program} {own : Bool} {N : Nat} {s : AS} {K : AS → Prop} {d : Option Nat}
def nbase : Nat := 8000000
/-- A matrix asx regions: the outer slice in r0, its rows in b, b + 1, .. -/
def matH (r0 b : Nat) (rows : List (List Int)) : Hp := famH (fun r => if r = r0 then some (false, rowsC b rows) else none) b rows
theorem matH_some {r0 b r : Nat} {rows : List (List Int)} {c : Bool × List AV} (h : matH r0 b rows r = some c) : (r = r0 ∧ c = (false, rowsC b rows)) ∨ ∃ j, j < rows.length ∧ r = b + j ∧ c = (true, (rows.getD j []).map AV.i) := by
  rcases famH_some h with h1 | ⟨_, h1⟩
  · split at h1
    · rename_i e; cases h1; exact .inl ⟨e, rfl⟩
    · cases h1
  · exact .inr h1
theorem matH_outer (r0 b : Nat) (rows : List (List Int)) : matH r0 b rows r0 = some (false, rowsC b rows) := by simp [matH, famH]
theorem matH_row {r0 b : Nat} {rows : List (List Int)} {j : Nat} (h : r0 < b) (hj : j < rows.length) : matH r0 b rows (b + j) = some (true, (rows.getD j []).map AV.i) :=
  famH_row (by have : ¬ b + j = r0 := by omega
               simp [this]) hj
theorem renL_ints (f : Nat → Nat) (l : List Int) : renL f (l.map AV.i) = l.map AV.i := by
  induction l with
  | nil => rfl
  | cons x l ih => simp only [List.map_cons, renL, renV, ih]
theorem ownL_ints (q : Bool) (l : List Int) : ownL q (l.map AV.i) = true := by
  induction l with
  | nil => rfl
  | cons x l ih => simp only [List.map_cons, ownL, ownV, ih, Bool.and_self]
theorem refsL_ints (keep : Nat → Bool) (l : List Int) : refsL keep (l.map AV.i) = true := by
  induction l with
  | nil => rfl
  | cons x l ih => simp only [List.map_cons, refsL, refsV, ih, Bool.and_self]
theorem matH_own {r0 b : Nat} {rows : List (List Int)} (h : r0 < b) (r : Nat) (c : Bool × List AV) (hc : matH r0 b rows r = some c) : ownL false c.2 = true ∧ refsL (fun r => (matH r0 b rows r).isSome) c.2 = true := by
  rcases matH_some hc with ⟨rfl, rfl⟩ | ⟨j, hj, rfl, rfl⟩
  · exact ⟨rowsC_own _ _ _, rowsC_refs _ _ _ fun j hj => by rw [matH_row h hj]; rfl⟩
  · exact ⟨ownL_ints _ _, refsL_ints _ _⟩
/-- The names of a matrix handed out. -/
def gnm (q b : Nat) : Nat → Nat := fun r => if r = nbase then q else b + (r - (nbase + 1))
theorem gnm_outer (q b : Nat) : gnm q b nbase = q := if_pos rfl
theorem gnm_row (q b j : Nat) : gnm q b (nbase + 1 + j) = b + j := by
  unfold gnm
  rw [if_neg (by omega), Nat.add_sub_cancel_left]
theorem gnm_inj {q b : Nat} (hq : q < b) {rows : List (List Int)} {r r' : Nat} (h1 : (matH nbase (nbase + 1) rows r).isSome = true) (h2 : (matH nbase (nbase + 1) rows r').isSome = true) (e : gnm q b r = gnm q b r') : r = r' := by
  obtain ⟨c, hc⟩ := Option.isSome_iff_exists.1 h1
  obtain ⟨c', hc'⟩ := Option.isSome_iff_exists.1 h2
  rcases matH_some hc with ⟨rfl, _⟩ | ⟨j, hj, rfl, _⟩
  · rcases matH_some hc' with ⟨rfl, _⟩ | ⟨j', hj', rfl, _⟩
    · rfl
    · rw [gnm_outer, gnm_row] at e; omega
  · rcases matH_some hc' with ⟨rfl, _⟩ | ⟨j', hj', rfl, _⟩
    · rw [gnm_outer, gnm_row] at e; omega
    · rw [gnm_row, gnm_row] at e; omega
theorem gnm_cells (q b : Nat) (rows : List (List Int)) : renL (gnm q b) (rowsC (nbase + 1) rows) = rowsC b rows := rowsC_ren _ _ _ _ fun j _ => gnm_row q b j
theorem gnm_hp {q b : Nat} {rows : List (List Int)} {hp : Hp} (h0 : hp q = some (false, rowsC b rows)) (hr : ∀ j, j < rows.length → hp (b + j) = some (true, (rows.getD j []).map AV.i)) (r : Nat) (c : Bool × List AV) (hc : matH nbase (nbase + 1) rows r = some c) :
    hp (gnm q b r) = some (renR (gnm q b) c) := by
  rcases matH_some hc with ⟨rfl, rfl⟩ | ⟨j, hj, rfl, rfl⟩
  · rw [gnm_outer, h0]
    simp only [renR]
    rw [gnm_cells]
  · rw [gnm_row, hr j hj]
    simp only [renR]
    rw [renL_ints]
abbrev matO (rows : List (List Int)) : Hp := matH nbase (nbase + 1) rows
theorem static_mat1 (rows : List (List Int)) : Static (fun _ => none) (.sl nbase 1 0 rows.length) (matO rows) :=
  ⟨fun r h => by simp at h, matH_own (by omega), by simp [ownV], by simp [refsV, matO, matH_outer]⟩
theorem static_mat2 (rows : List (List Int)) (x : Value) : Static (fun _ => none) (.tup [.sl nbase 1 0 rows.length, .v x]) (matO rows) :=
  ⟨fun r h => by simp at h, matH_own (by omega), by simp [ownV, ownL], by simp [refsV, refsL, matO, matH_outer]⟩
/-- A matrix is handed out. -/
theorem ret_mat {r0 b : Nat} {rows : List (List Int)} {ts : List Nat} {res : AV} (hr0 : r0 < b) (hpb : r0 < pbase) (hb : b + rows.length ≤ pbase)
    (h1 : resAV s ts = renV (gnm r0 b) res) (h0 : s.hp r0 = some (false, rowsC b rows)) (hrow : ∀ j, j < rows.length → s.hp (b + j) = some (true, (rows.getD j []).map AV.i)) : DoneH ts res (fun _ => none) (matO rows) .ret s := by
  refine ret_doneh (gnm r0 b) h1 (fun r c hc => ⟨_, gnm_hp h0 hrow r c hc, .inl rfl⟩) (fun r hr => by simp at hr) (fun r hr _ => ?_) fun r r' h2 h3 e => gnm_inj hr0 h2 h3 e
  obtain ⟨c, hc⟩ := Option.isSome_iff_exists.1 hr
  rcases matH_some hc with ⟨rfl, _⟩ | ⟨j, hj, rfl, _⟩
  · rw [gnm_outer]; exact hpb
  · rw [gnm_row]; omega
/-- An empty one. -/
theorem ret_mat0 {r0 : Nat} {fl : Bool} {ts : List Nat} {res : AV} (hpb : r0 < pbase) (h1 : resAV s ts = renV (gnm r0 (r0 + 1)) res) (h0 : s.hp r0 = some (fl, [])) : DoneH ts res (fun _ => none) (matO []) .ret s := by
  refine ret_doneh (gnm r0 (r0 + 1)) h1 (fun r c hc => ?_) (fun r hr => by simp at hr) (fun r hr _ => ?_) fun r r' h2 h3 e => gnm_inj (by omega) h2 h3 e
  · rcases matH_some hc with ⟨rfl, rfl⟩ | ⟨j, hj, _⟩
    · exact ⟨_, by rw [gnm_outer]; exact h0, .inr ⟨rfl, rfl⟩⟩
    · simp at hj
  · obtain ⟨c, hc⟩ := Option.isSome_iff_exists.1 hr
    rcases matH_some hc with ⟨rfl, _⟩ | ⟨j, hj, _⟩
    · rw [gnm_outer]; exact hpb
    · simp at hj
/-- A matrix comes in: its outer slice is region q, its rows are b, b + 1, .. -/
def AS.addM (s : AS) (q b : Nat) (rows : List (List Int)) : AS := ⟨s.tm, famH (fun r => if r = q then some (false, rowsC b rows) else s.hp r) b rows⟩
theorem addM_row {s : AS} {q b : Nat} {rows : List (List Int)} {j : Nat} (hq : q < b) (hn : s.hp (b + j) = none) (hj : j < rows.length) : (s.addM q b rows).hp (b + j) = some (true, (rows.getD j []).map AV.i) :=
  famH_row (h := fun r => if r = q then some (false, rowsC b rows) else s.hp r) (by
    show (if b + j = q then some (false, rowsC b rows) else s.hp (b + j)) = none
    rw [if_neg (by omega)]; exact hn) hj
/-- A call that hands out a matrix: its outer slice is taken asx region q, its rows asx b, b + 1, .. -/
theorem m_callM {f : FuncId} {args : List Opd} {asx : List AV} {rows : List (List Int)} {res : AV} (q b : Nat) (hs : SpH P f asx (fun _ => none) res (matO rows)) (hl : Lends s.hp (args.map s.ev) asx) (hor : ownV false res = true) (hqb : q < b) (hqp : q < pbase) (hb : b + rows.length ≤ pbase)
    (hq : s.hp q = none) (hrow : ∀ j, j < rows.length → s.hp (b + j) = none)
    (k : K (AS.put (s.addM q b rows) d (renV (gnm q b) res))) : aop1 P true ⟨d, .call f args, none⟩ s K := by
  refine m_callh (gnm q b) hs (lendsH_none hl) ⟨fun r c h => by simp at h, fun r r' h1 h2 e => gnm_inj hqb h1 h2 e, fun r h => by simp at h, fun r hr _ => ?_, gnm_hp ?_ fun j hj => ?_, fun p hp => ?_, fun r c h => by simp at h, fun r c hc => (matH_own (by omega) r c hc).1, hor⟩ k
  · obtain ⟨c, hc⟩ := Option.isSome_iff_exists.1 hr
    rcases matH_some hc with ⟨rfl, _⟩ | ⟨j, hj, rfl, _⟩
    · rw [gnm_outer]; exact ⟨hq, hqp⟩
    · rw [gnm_row]; exact ⟨hrow j hj, by omega⟩
  · simp [famH]
  · exact famH_row (by have : ¬ b + j = q := by omega
                       simp only [this, if_false]; exact hrow j hj) hj
  · have h1 : p ≠ q := fun e => hp nbase (by rw [matO, matH_outer]; rfl) (by rw [gnm_outer]; exact e.symm)
    unfold famH
    simp only [h1, if_false]
    cases hh : s.hp p with
    | some c => rfl
    | none =>
      simp only
      rw [if_neg]
      rintro ⟨h2, h3⟩
      refine hp (nbase + 1 + (p - b)) ?_ ?_
      · rw [matO, matH_row (by omega) (by omega)]; rfl
      · rw [gnm_row]; omega
/-- A matrix that is read; one of new memory that is read. -/
abbrev roM (rows : List (List Int)) : AV := .ro false 1 (rows.map ints) rows.length
abbrev roF (rows : List (List Int)) : AV := .ro true 1 (rows.map newInts) rows.length
theorem roM_at {rows : List (List Int)} {k : Nat} (h : k < rows.length) : ((rows.map ints).drop k)[0]? = some (ints (rows.getD k [])) := by simp [h]
theorem lend_roM {hp : Hp} {fr fr2 : Bool} {n : Nat} {rows : List (List Int)} (hn : n = rows.length) : Lend hp (.ro fr 1 (rows.map fun l => .ro fr2 1 (l.map AV.i) l.length) n) (roM rows) := by
  subst hn
  intro w0 mu N tm w phi ro v hS h
  simp only [SimV] at h ⊢
  rcases h with ⟨h1, h2, a, c, h3, _⟩ | ⟨b, o, cap, cur, e, fz, h1, h2, h3, h4, h5, _, h6⟩
  · have : rows = [] := List.eq_nil_of_length_eq_zero h1
    subst this
    exact .inl ⟨rfl, rfl, a, c, h3, by simp⟩
  · refine .inr ⟨b, o, cap, cur, e, fz, h1, h2, hS.rob b h3, by simp, h5, by simp, ?_⟩
    refine SimL.of_get fun j x hj => ?_
    rw [List.getElem?_map, Option.map_eq_some_iff] at hj
    obtain ⟨l, hl, rfl⟩ := hj
    obtain ⟨y, k1, k2⟩ := h6.get (i := j) (a := .ro fr2 1 (l.map AV.i) l.length) (by rw [List.getElem?_map, hl]; rfl)
    refine ⟨y, k1, ?_⟩
    simp only [SimV] at k2 ⊢
    rcases k2 with ⟨g1, g2, a', c', g3, _⟩ | ⟨b', o', cap', cur', e', fz', g1, g2, g3, g4, g5, _, g6⟩
    · exact .inl ⟨g1, g2, a', c', g3, by simp⟩
    · exact .inr ⟨b', o', cap', cur', e', fz', g1, g2, hS.rob b' g3, g4, g5, by simp, simL_allv (allv_ints l) g6⟩
theorem ob_ints {G : Prop} {l : List Int} {o : Obj} (h : ((true, l.map AV.i) : Bool × List AV) = (true, [.ob o])) : G := by
  simp only [Prod.mk.injEq, true_and] at h
  cases l with
  | nil => simp at h
  | cons x l => simp at h
/-- A matrix handed out, read. -/
theorem simv_roF {w w' : World} {phi : Nat → Option Nat} {rows : List (List Int)} {v : Value} (h1 : ∀ r b, (matO rows r).isSome = true → phi r = some b → w.heap.size ≤ b) (h2 : Regs (ctxX w w' phi (matO rows)) (matO rows)) (h3 : SimV (.sl nbase 1 0 rows.length) (ctxX w w' phi (matO rows)) v) : SimV (roF rows) (fresh w w') v := by
  simp only [SimV] at h3 ⊢
  rcases h3.2.2 with ⟨k1, _, k3, k4⟩ | ⟨b', o, cap, cur, e, k1, k2, k3, k4, k5, k6, k7⟩
  · have : rows = [] := List.eq_nil_of_length_eq_zero k3
    subst this
    exact .inl ⟨rfl, rfl, none, 0, by simpa using k4, by simp⟩
  · have ho : o = 0 := by
      rcases k4 with k4 | k4
      · exact k4
      · omega
    subst ho
    have hb := h1 nbase b' (by rw [matO, matH_outer]; rfl) k1
    have k3' : w'.heap[b']? = some (.cells cur e (0, 0)) := k3
    refine .inr ⟨b', 0, cap, cur, e, (0, 0), k2, k3', ⟨hb, lt_of_get k3'⟩, by simp, k5, fun _ => ⟨hb, rfl, rfl, k6, by omega⟩, ?_⟩
    rcases h2 nbase _ (matH_outer _ _ _) with ⟨g1, _⟩ | ⟨b2, cur2, e2, g1, g2, g3⟩ | ⟨b2, o2, h0, _⟩
    case inr.inr => cases h0
    · have : phi nbase = some b' := k1
      have g1' : phi nbase = none := g1
      rw [g1'] at this; cases this
    · have g1' : phi nbase = some b2 := g1
      have k1' : phi nbase = some b' := k1
      rw [g1'] at k1'
      cases k1'
      have g2' : w'.heap[b']? = some (.cells cur2 e2 (0, 0)) := g2
      rw [k3'] at g2'
      cases g2'
      simp only [SimR, Bool.false_eq_true, if_false] at g3
      rw [List.drop_zero]
      refine SimL.of_get fun j x hj => ?_
      rw [List.getElem?_map, Option.map_eq_some_iff] at hj
      obtain ⟨l, hl, rfl⟩ := hj
      have hjl := (List.getElem?_eq_some_iff.1 hl).1
      have e1 : rows.getD j [] = l := by rw [List.getD_eq_getElem?_getD, hl]; rfl
      obtain ⟨y, m1, m2⟩ := g3.get (rowsC_get (nbase + 1) rows j hjl)
      refine ⟨y, m1, ?_⟩
      rw [e1] at m2
      simp only [SimV] at m2 ⊢
      rcases m2.2.2 with ⟨n1, _, n3, n4⟩ | ⟨b3, o3, cap3, cur3, e3, n1, n2, n3, n4, n5, n6, n7⟩
      · have : l = [] := List.eq_nil_of_length_eq_zero n3
        subst this
        exact .inl ⟨rfl, rfl, none, 0, by simpa using n4, by simp⟩
      · have ho3 : o3 = 0 := by
          rcases n4 with n4 | n4
          · exact n4
          · omega
        subst ho3
        have hrow := matH_row (r0 := nbase) (b := nbase + 1) (rows := rows) (by omega) hjl
        have hb3 := h1 (nbase + 1 + j) b3 (by rw [matO, hrow]; rfl) n1
        have n3' : w'.heap[b3]? = some (.cells cur3 e3 (0, 0)) := n3
        refine .inr ⟨b3, 0, cap3, cur3, e3, (0, 0), n2, n3', ⟨hb3, lt_of_get n3'⟩, by simp, n5, fun _ => ⟨hb3, rfl, rfl, n6, by omega⟩, ?_⟩
        rcases h2 _ _ hrow with ⟨g4, _⟩ | ⟨b4, cur4, e4, g4, g5, g6⟩ | ⟨b4, o4, h0, _⟩
        case inr.inr => exact ob_ints h0
        · have n1' : phi (nbase + 1 + j) = some b3 := n1
          have g4' : phi (nbase + 1 + j) = none := g4
          rw [g4'] at n1'; cases n1'
        · have g4' : phi (nbase + 1 + j) = some b4 := g4
          have n1' : phi (nbase + 1 + j) = some b3 := n1
          rw [g4'] at n1'
          cases n1'
          have g5' : w'.heap[b3]? = some (.cells cur4 e4 (0, 0)) := g5
          rw [n3'] at g5'
          cases g5'
          simp only [SimR, if_true] at g6
          rw [e1] at g6
          rw [List.drop_zero]
          exact simL_allv (allv_ints l) g6
theorem sp_mat2 {f : FuncId} {asx : List AV} {rows : List (List Int)} {x : Value} (h : SpH P f asx (fun _ => none) (.tup [.sl nbase 1 0 rows.length, .v x]) (matO rows)) : Sp P f asx (.tup [roF rows, .v x]) := by
  refine spH_sp h fun w w' phi v h1 h2 h3 => ?_
  rw [SimV] at h3 ⊢
  obtain ⟨a, k1, k2, k3⟩ := h3
  refine ⟨a, k1, k2, ?_⟩
  match hl : a.toList with
  | [] => rw [hl] at k3; simp [SimL] at k3
  | [_] => rw [hl] at k3; simp [SimL] at k3
  | u :: v :: rest =>
    rw [hl] at k3
    rw [SimL, SimL] at k3 ⊢
    exact ⟨simv_roF h1 h2 k3.1, by simpa [SimV] using k3.2.1, by simp [SimL]⟩
end Go.Am
namespace Go.Am
variable [Go.Am.CodeBlk]
variable {P : Program} {own : Bool} {N : Nat} {s : AS} {K : AS → Prop} {d : Option Nat}
/-- A region told otherwise, its block being what it was. -/
theorem weak_recell {s : AS} {r : Nat} {c c' : Bool × List AV} (hr : s.hp r = some c) (hne : c.2 ≠ []) (hno : ∀ o, c ≠ (true, [.ob o]))
    (h : ∀ (w0 : World) (mu : Nat → Option Nat) (N : Nat) (tm : Array Value) (w : World) (phi : Nat → Option Nat) (ro : Nat → Prop) (cur : Array Value), Sim w0 mu N s tm w phi ro → SimR c (ctx w0 w ro phi s) cur.toList → SimR c' (ctx w0 w ro phi s) cur.toList) : Weak s (s.mem r c') := by
  intro w0 mu N a w hS
  obtain ⟨hf, phi, ro, hS⟩ := hS
  rcases hS.liv r c hr with ⟨_, h2, _⟩ | ⟨b, cur, e, h1, h2, h3, h4, h5⟩ | ⟨b, o, h0, _⟩
  · exact absurd h2 hne
  case inr.inr => exact absurd h0 (hno o)
  · exact ⟨hf, phi, ro, hS.write hr h1 h2 h2 rfl (fun _ _ _ => rfl) rfl rfl rfl (Nat.le_refl _) (h w0 mu N a.tmps w phi ro cur hS h5)⟩
/-- Plain cells may be told asx cells that may lead to regions. -/
theorem weak_deep {r : Nat} {cs : List AV} (hr : s.hp r = some (true, cs)) (hne : cs ≠ []) (hpl : cs.all plainV = true) : Weak s (s.mem r (false, cs)) := by
  refine weak_recell hr hne (fun o h => by cases h; simp [plainV] at hpl) fun w0 mu N tm w phi ro cur _ h => ?_
  simp only [SimR, if_true, Bool.false_eq_true, if_false] at h ⊢
  exact simL_allv hpl h
end Go.Am
namespace Go.Am
variable [Go.Am.CodeBlk]
variable {s : AS}
theorem mem_self {r : Nat} {c : Bool × List AV} (hr : s.hp r = some c) : s.mem r c = s := by
  obtain ⟨tm, hp⟩ := s
  simp only [AS.mem, AS.mk.injEq, true_and]
  funext q
  by_cases h : q = r
  · subst h; simp only [if_true]; exact hr.symm
  · simp [h]
/-- A region's last cells are forgotten. -/
theorem weak_shrink (r n : Nat) {cs : List AV} (hr : s.hp r = some (true, cs)) (hpl : cs.all plainV = true) : Weak s (s.mem r (true, cs.take n)) := by
  intro w0 mu N a w hS
  obtain ⟨hf, phi, ro, hS⟩ := hS
  rcases hS.liv r _ hr with ⟨_, h2, _⟩ | ⟨b, cur, e, h1, h2, h3, h4, h5⟩ | ⟨b, o, h0, _⟩
  · simp only at h2
    subst h2
    rw [List.take_nil, mem_self hr]
    exact ⟨hf, phi, ro, hS⟩
  · refine ⟨hf, _, ro, hS.write hr h1 h2 h2 rfl (fun _ _ _ => rfl) rfl rfl rfl (Nat.le_refl _) ?_⟩
    simp only [SimR, if_true] at h5 ⊢
    exact h5.take n
  · cases h0
    simp [plainV] at hpl
end Go.Am
namespace Go.Am
variable [Go.Am.CodeBlk]
/-- A function value bears its first arguments; what it bears, a callee may read asx it is. -/
def Bears (fl : List AV) : Prop := ∀ hp, ∀ x ∈ fl, Lend hp x x
theorem lends_bears {fl : List AV} (h : Bears fl) (hp : Hp) {xs ys : List AV} (k : Lends hp xs ys) : Lends hp (fl ++ xs) (fl ++ ys) := by
  induction fl with
  | nil => exact k
  | cons a l ih => exact lends_cons (h hp a (by simp)) (ih fun hp x hx => h hp x (by simp [hx]))
theorem lend_fn {hp : Hp} {f : FuncId} {l m : List AV} {k : Nat} (h : Lends hp l m) : Lend hp (.fn f l k) (.fn f m k) := by
  intro w0 mu N tm w phi ro v hS hv
  simp only [SimV] at hv ⊢
  obtain ⟨a, b, h1, h2, h3, h4⟩ := hv
  obtain ⟨h5, h6⟩ := h w0 mu N tm w phi ro (a.toList ++ b.toList) hS h4 (by simpa using h3)
  exact ⟨a, b, h1, h2, by simpa using h6, h5⟩
theorem lend_bears {hp : Hp} {f : FuncId} {fl : List AV} {k : Nat} (h : Bears fl) : Lend hp (.fn f fl k) (.fn f fl k) := by
  have := lends_bears h hp lends_nil
  simp only [List.append_nil] at this
  exact lend_fn this
section
variable {s : AS}
theorem tm_put_ne' {d t : Nat} {x : AV} (h : t ≠ d) : (s.put (some d) x).tm t = s.tm t := by simp [AS.put, h]
theorem tm_put_none {t : Nat} {x : AV} : (s.put none x).tm t = s.tm t := rfl
theorem tm_mem {r t : Nat} {c : Bool × List AV} : (s.mem r c).tm t = s.tm t := rfl
theorem tm_kill {r t : Nat} : (s.kill r).tm t = killV r (s.tm t) := rfl
theorem tm_mv {r q t : Nat} {c : List AV} : (s.mv r q c).tm t = mvV r q (s.tm t) := rfl
theorem tm_st {l : List (Nat × AV)} {h : List (Nat × (Bool × List AV))} {t : Nat} : (st l h).tm t = (look l t).getD .any := rfl
theorem tm_en0 {a : AV} {l : List AV} : (enter0 (a :: l)).tm 0 = a := rfl
theorem tm_en1 {a b : AV} {l : List AV} : (enter0 (a :: b :: l)).tm 1 = b := rfl
theorem tm_en2 {a b c : AV} {l : List AV} : (enter0 (a :: b :: c :: l)).tm 2 = c := rfl
theorem tm_en3 {a b c d : AV} {l : List AV} : (enter0 (a :: b :: c :: d :: l)).tm 3 = d := rfl
theorem tm_en4 {a b c d e : AV} {l : List AV} : (enter0 (a :: b :: c :: d :: e :: l)).tm 4 = e := rfl
end
section
variable {f : FuncId} {fl : List AV} {k r q : Nat}
theorem kill_fn (h : ∀ r, killL r fl = fl) : killV r (.fn f fl k) = .fn f fl k := by simp only [killV, h]
theorem mv_fn (h : ∀ r, killL r fl = fl) : mvV r q (.fn f fl k) = .fn f fl k := by simp only [mvV, killV, h]
end
/-- May a function value be asked whether a guest fits behind a list? It answers asx 'fits' says. -/
structure Asks (P : Program) (f : FuncId) (fl : List AV) (n : Nat) (fits : List Int → Nat → Bool) : Prop where
  call : Callable P f
  bears : Bears fl
  norefs : ∀ keep, refsL keep fl = true
  nokill : ∀ r, killL r fl = fl
  spec : ∀ (M : List Int) (y : Nat), M.length < n → (∀ x ∈ M, 0 ≤ x ∧ x < n) → y < n → Sp P f (fl ++ [ints M, .i y]) (.b (fits M y))
theorem asks_lend {s : AS} {fl : List AV} {args : List Opd} {xs ys : List AV} (h : Bears fl) (he : args.map s.ev = xs) (k : Lends s.hp xs ys) : Lends s.hp (fl.take fl.length ++ args.map s.ev ++ fl.drop fl.length) (fl ++ ys) := by
  rw [he, List.take_length, List.drop_length, List.append_nil]
  exact lends_bears h _ k
/- Boards asx texts. -/
def sgn (b : Bool) : UInt8 := if b then 35 else 46
def rowT (fb : Nat → Nat → Bool) (i k : Nat) : List UInt8 := (List.range k).map fun j => sgn (fb i j)
def bdT (fb : Nat → Nat → Bool) (n : Nat) : Nat → List UInt8
  | 0 => []
  | k + 1 => bdT fb n k ++ (if 0 < k then [47] else []) ++ rowT fb k n
theorem rowT_len (fb : Nat → Nat → Bool) (i k : Nat) : (rowT fb i k).length = k := by simp [rowT]
theorem getD_memL {α : Type} {l : List α} {d : α} {m : Nat} (h : m < l.length) : l.getD m d ∈ l := by
  have : l.getD m d = l[m] := by simp [h]
  rw [this]
  exact List.getElem_mem h
end Go.Am
namespace Go.Am
variable [Go.Am.CodeBlk]
/-- A text cut at slashes, at most k times. -/
def splitNB : Nat → List UInt8 → List (List UInt8)
  | 0, B => [B]
  | k + 1, B => if (47 : UInt8) ∈ B then B.takeWhile (· != 47) :: splitNB k (B.drop ((B.takeWhile (· != 47)).length + 1)) else [B]
/-- A text cut at all slashes. -/
def splitB (B : List UInt8) : List (List UInt8) := splitNB (B.count 47) B
def joinB : List (List UInt8) → List UInt8
  | [] => []
  | r :: rs => r ++ rs.flatMap fun x => 47 :: x
theorem takeWhile_cut {p q : List UInt8} (h : (47 : UInt8) ∉ p) : (p ++ 47 :: q).takeWhile (· != 47) = p := by
  induction p with
  | nil => simp
  | cons a p ih =>
    have h1 : a ≠ 47 := fun e => h (by simp [e])
    simp [h1, ih (fun hh => h (by simp [hh]))]
theorem splitNB_cut {p q : List UInt8} (h : (47 : UInt8) ∉ p) (k : Nat) : splitNB (k + 1) (p ++ 47 :: q) = p :: splitNB k q := by
  rw [splitNB, if_pos (by simp), takeWhile_cut h]
  congr 2
  rw [List.drop_append, List.drop_of_length_le (by omega)]
  simp
theorem splitNB_one {B : List UInt8} (h : (47 : UInt8) ∉ B) (k : Nat) : splitNB k B = [B] := by
  cases k with
  | zero => rfl
  | succ k => rw [splitNB, if_neg h]
theorem cut_at {B : List UInt8} (h : (47 : UInt8) ∈ B) : ∃ p q, (47 : UInt8) ∉ p ∧ B = p ++ 47 :: q := by
  induction B with
  | nil => simp at h
  | cons a B ih =>
    by_cases ha : a = 47
    · exact ⟨[], B, by simp, by simp [ha]⟩
    · have hm : (47 : UInt8) ∈ B := by
        rcases List.mem_cons.1 h with e | e
        · exact absurd e.symm ha
        · exact e
      obtain ⟨p, q, h1, h2⟩ := ih hm
      exact ⟨a :: p, q, by simp [h1]; exact fun e => ha e.symm, by simp [h2]⟩
theorem count_cut {p q : List UInt8} (h : (47 : UInt8) ∉ p) : (p ++ 47 :: q).count 47 = q.count 47 + 1 := by
  rw [List.count_append, List.count_eq_zero.2 h, List.count_cons_self]
  omega
theorem splitB_cut {p q : List UInt8} (h : (47 : UInt8) ∉ p) : splitB (p ++ 47 :: q) = p :: splitB q := by
  unfold splitB
  rw [count_cut h, splitNB_cut h]
theorem splitB_one {B : List UInt8} (h : (47 : UInt8) ∉ B) : splitB B = [B] := splitNB_one h _
theorem splitNB_len : ∀ (k : Nat) (B : List UInt8), (splitNB k B).length = min k (B.count 47) + 1
  | 0, B => by simp [splitNB]
  | k + 1, B => by
    by_cases h : (47 : UInt8) ∈ B
    · obtain ⟨p, q, h1, rfl⟩ := cut_at h
      rw [splitNB_cut h1, List.length_cons, splitNB_len k q, count_cut h1]
      omega
    · rw [splitNB_one h, List.count_eq_zero.2 h]
      simp
theorem splitNB_all : ∀ (k : Nat) (B : List UInt8), B.count 47 ≤ k → splitNB k B = splitB B
  | k, B, hk => by
    by_cases h : (47 : UInt8) ∈ B
    · obtain ⟨p, q, h1, rfl⟩ := cut_at h
      rw [count_cut h1] at hk
      cases k with
      | zero => omega
      | succ k => rw [splitNB_cut h1, splitB_cut h1, splitNB_all k q (by omega)]
    · rw [splitNB_one h, splitB_one h]
theorem splitB_len (B : List UInt8) : (splitB B).length = B.count 47 + 1 := by
  unfold splitB
  rw [splitNB_len]
  omega
theorem splitNB_ne (k : Nat) (B : List UInt8) : splitNB k B ≠ [] := fun h => by
  have := splitNB_len k B
  rw [h] at this
  simp at this
theorem joinB_cons {r : List UInt8} {rs : List (List UInt8)} (h : rs ≠ []) : joinB (r :: rs) = r ++ 47 :: joinB rs := by
  cases rs with
  | nil => exact absurd rfl h
  | cons a l => simp [joinB]
theorem joinB_split : ∀ (k : Nat) (B : List UInt8), joinB (splitNB k B) = B
  | 0, B => by simp [splitNB, joinB]
  | k + 1, B => by
    by_cases h : (47 : UInt8) ∈ B
    · obtain ⟨p, q, h1, rfl⟩ := cut_at h
      rw [splitNB_cut h1, joinB_cons (splitNB_ne k q), joinB_split k q]
    · rw [splitNB_one h]
      simp [joinB]
theorem joinB_snoc (l : List (List UInt8)) (x : List UInt8) : joinB (l ++ [x]) = joinB l ++ (if 0 < l.length then [47] else []) ++ x := by
  cases l with
  | nil => simp [joinB]
  | cons r rs => simp [joinB]
/-- A board that is well told: asx many rows asx there are signs in each, all of them signs. -/
def GoodBd (B : List UInt8) : Prop := B.count 47 ≤ 7 ∧ ∀ r ∈ splitB B, r.length = B.count 47 + 1 ∧ ∀ c ∈ r, c = 46 ∨ c = 35
instance (B : List UInt8) : Decidable (GoodBd B) := inferInstanceAs (Decidable (_ ∧ _))
/-- The side of a board, and what is forbidden. -/
def sdB (B : List UInt8) : Nat := B.count 47 + 1
def fbB (B : List UInt8) (i j : Nat) : Bool := decide (((splitB B).getD i []).getD j 0 = 35)
theorem getD_get {α : Type} {l : List α} {d : α} {j : Nat} (h : j < l.length) : l.getD j d = l[j] := by simp [h]
theorem good_row {B : List UInt8} (h : GoodBd B) {i : Nat} (hi : i < sdB B) : (splitB B).getD i [] = rowT (fbB B) i (sdB B) := by
  have hl := splitB_len B
  have hm : (splitB B).getD i [] ∈ splitB B := getD_memL (by unfold sdB at hi; omega)
  obtain ⟨h1, h2⟩ := h.2 _ hm
  apply List.ext_getElem
  · rw [h1, rowT_len]; rfl
  · intro j hj1 hj2
    have hc := h2 _ (List.getElem_mem hj1)
    have hg : ((splitB B).getD i []).getD j 0 = ((splitB B).getD i [])[j] := getD_get hj1
    simp only [rowT, List.getElem_map, List.getElem_range, fbB, hg]
    rcases hc with hc | hc
    · rw [hc]; rfl
    · rw [hc]; rfl
theorem join_take {B : List UInt8} (h : GoodBd B) : ∀ k, k ≤ sdB B → joinB ((splitB B).take k) = bdT (fbB B) (sdB B) k
  | 0, _ => by simp [joinB, bdT]
  | k + 1, hk => by
    have hl := splitB_len B
    rw [take_snoc (splitB B) k [] (by unfold sdB at hk; omega), joinB_snoc, join_take h k (by omega), good_row h (by omega), List.length_take_of_le (by unfold sdB at hk; omega)]
    rfl
theorem good_text {B : List UInt8} (h : GoodBd B) : B = bdT (fbB B) (sdB B) (sdB B) := by
  have hl := splitB_len B
  have := join_take h (sdB B) (Nat.le_refl _)
  rw [List.take_of_length_le (by unfold sdB; omega)] at this
  rw [← this]
  exact (joinB_split _ B).symm
theorem bdT_len2 (fb : Nat → Nat → Bool) (n : Nat) : ∀ k, (bdT fb n k).length = k * (n + 1) - 1
  | 0 => by simp [bdT]
  | k + 1 => by
    simp only [bdT, List.length_append, rowT_len, bdT_len2 fb n k]
    rcases Nat.eq_zero_or_pos k with h | h
    · subst h; simp
    · rw [if_pos h, Nat.add_mul]
      have : 1 ≤ k * (n + 1) := Nat.mul_pos h (by omega)
      simp
      omega
theorem getD_app_l {α : Type} {a b : List α} {d : α} {i : Nat} (h : i < a.length) : (a ++ b).getD i d = a.getD i d := by
  rw [getD_get (show i < (a ++ b).length by rw [List.length_append]; omega), getD_get h, List.getElem_append_left h]
theorem getD_app_r {α : Type} {a b : List α} {d : α} {i : Nat} (h : a.length ≤ i) : (a ++ b).getD i d = b.getD (i - a.length) d := by
  simp [List.getElem?_append, Nat.not_lt.2 h]
theorem bdT_at (fb : Nat → Nat → Bool) (n : Nat) : ∀ k i j, i < k → j < n → (bdT fb n k).getD (i * (n + 1) + j) 0 = sgn (fb i j)
  | 0, i, j, hi, _ => by omega
  | k + 1, i, j, hi, hj => by
    have hl := bdT_len2 fb n k
    by_cases hik : i < k
    · have h1 : i * (n + 1) + j < (bdT fb n k).length := by
        have : (i + 1) * (n + 1) ≤ k * (n + 1) := Nat.mul_le_mul_right _ hik
        rw [Nat.add_mul] at this
        omega
      simp only [bdT]
      rw [List.append_assoc, getD_app_l h1]
      exact bdT_at fb n k i j hik hj
    · obtain rfl : i = k := by omega
      have hp : (bdT fb n i ++ (if 0 < i then [47] else [])).length = i * (n + 1) := by
        rw [List.length_append, hl]
        rcases Nat.eq_zero_or_pos i with h | h
        · subst h; simp
        · have : 1 ≤ i * (n + 1) := Nat.mul_pos h (by omega)
          rw [if_pos h]; simp; omega
      simp only [bdT]
      rw [getD_app_r (by omega), hp, Nat.add_sub_cancel_left]
      simp [rowT, hj]
theorem good_at {B : List UInt8} (h : GoodBd B) {i j : Nat} (hi : i < sdB B) (hj : j < sdB B) : B.getD (i * (sdB B + 1) + j) 0 = sgn (fbB B i j) := by
  have h1 := bdT_at (fbB B) (sdB B) (sdB B) i j hi hj
  rw [← good_text h] at h1
  exact h1
theorem good_len {B : List UInt8} (h : GoodBd B) : B.length = sdB B * (sdB B + 1) - 1 := by
  have h1 := bdT_len2 (fbB B) (sdB B) (sdB B)
  rw [← good_text h] at h1
  exact h1
theorem good_sd {B : List UInt8} (h : GoodBd B) : 1 ≤ sdB B ∧ sdB B ≤ 8 := ⟨by unfold sdB; omega, by have := h.1; unfold sdB; omega⟩
theorem good_len72 {B : List UInt8} (h : GoodBd B) : B.length ≤ 71 := by
  have h1 := good_len h
  have h2 := good_sd h
  have : sdB B * (sdB B + 1) ≤ 8 * 9 := Nat.mul_le_mul h2.2 (by omega)
  omega
theorem indexByte_cut {p q : List UInt8} (h : (47 : UInt8) ∉ p) : Lib.indexByte (p ++ 47 :: q) 47 = p.length := by
  induction p with
  | nil => simp [Lib.indexByte]
  | cons a p ih =>
    have h1 : (a == 47) = false := by
      rw [beq_eq_false_iff_ne]
      exact fun e => h (by simp [e])
    have h2 := ih (fun hh => h (by simp [hh]))
    rw [List.cons_append, Lib.indexByte, h1, h2]
    have : ((p.length : Int) == -1) = false := by
      rw [beq_eq_false_iff_ne]; omega
    simp [this]
theorem indexByte_none {B : List UInt8} (h : (47 : UInt8) ∉ B) : Lib.indexByte B 47 = -1 := by
  induction B with
  | nil => rfl
  | cons a p ih =>
    have h1 : (a == 47) = false := by
      rw [beq_eq_false_iff_ne]
      exact fun e => h (by simp [e])
    rw [Lib.indexByte, h1, ih (fun hh => h (by simp [hh]))]
    rfl

/- The forbidden places asx a map's entries. -/
def keyP (a b : Int) : Value := .agg #[.int .i64 a, .int .i64 b]
theorem keyP_inj {a b c d : Int} (h : keyP a b = keyP c d) : a = c ∧ b = d := by
  simp only [keyP, Value.agg.injEq, Array.mk.injEq, List.cons.injEq, Value.int.injEq, true_and, and_true] at h
  exact h
def entP (p : Nat × Nat) (born : Nat) : MapEntry := { key := keyP p.1 p.2, val := .bool true, born }
def mkEsL : Nat → List (Nat × Nat) → List MapEntry
  | _, [] => []
  | c, p :: l => entP p c :: mkEsL (c + 1) l
def mkEs (l : List (Nat × Nat)) : Array MapEntry := (mkEsL 0 l).toArray
theorem mkEsL_snoc (l : List (Nat × Nat)) (p : Nat × Nat) : ∀ c, mkEsL c (l ++ [p]) = mkEsL c l ++ [entP p (c + l.length)] := by
  induction l with
  | nil => intro c; simp [mkEsL]
  | cons a l ih => intro c; rw [List.cons_append, mkEsL, mkEsL, ih, List.length_cons, show c + 1 + l.length = c + (l.length + 1) by omega]; rfl
theorem mkEs_push (l : List (Nat × Nat)) (p : Nat × Nat) : (mkEs l).push { key := keyP p.1 p.2, val := .bool true, born := l.length } = mkEs (l ++ [p]) := by
  unfold mkEs
  rw [mkEsL_snoc, Nat.zero_add]
  simp [entP]
theorem mem_mkEsL {l : List (Nat × Nat)} {e : MapEntry} : ∀ {c}, e ∈ mkEsL c l → ∃ p ∈ l, e.key = keyP p.1 p.2 ∧ e.val = .bool true := by
  induction l with
  | nil => intro c h; simp [mkEsL] at h
  | cons a l ih =>
    intro c h
    simp only [mkEsL, List.mem_cons] at h
    rcases h with rfl | h
    · exact ⟨a, by simp, rfl, rfl⟩
    · obtain ⟨p, h1, h2⟩ := ih h
      exact ⟨p, by simp [h1], h2⟩
theorem mem_mkEs {l : List (Nat × Nat)} {e : MapEntry} (h : e ∈ (mkEs l).toList) : ∃ p ∈ l, e.key = keyP p.1 p.2 ∧ e.val = .bool true := mem_mkEsL (c := 0) (by simpa [mkEs] using h)
theorem has_mkEsL {l : List (Nat × Nat)} {p : Nat × Nat} (h : p ∈ l) : ∀ c, ∃ e ∈ mkEsL c l, e.key = keyP p.1 p.2 := by
  induction l with
  | nil => simp at h
  | cons a l ih =>
    intro c
    rcases List.mem_cons.1 h with rfl | h
    · exact ⟨entP p c, by simp [mkEsL], rfl⟩
    · obtain ⟨e, h1, h2⟩ := ih h (c + 1)
      exact ⟨e, by simp [mkEsL, h1], h2⟩
theorem has_mkEs {l : List (Nat × Nat)} {p : Nat × Nat} (h : p ∈ l) : ∃ e ∈ (mkEs l).toList, e.key = keyP p.1 p.2 := by
  obtain ⟨e, h1, h2⟩ := has_mkEsL h 0
  exact ⟨e, by simpa [mkEs] using h1, h2⟩
/-- Is a place, told by any numbers, in a list? -/
def hasP (l : List (Nat × Nat)) (a b : Int) : Bool := l.any fun p => decide ((p.1 : Int) = a) && decide ((p.2 : Int) = b)
/-- The forbidden places of the first rows, and of a row's beginning. -/
def rowP (fb : Nat → Nat → Bool) (i k : Nat) : List (Nat × Nat) := ((List.range k).filter fun j => fb i j).map fun j => (i, j)
def posP (fb : Nat → Nat → Bool) (n : Nat) : Nat → List (Nat × Nat)
  | 0 => []
  | k + 1 => posP fb n k ++ rowP fb k n
theorem rowP_snoc (fb : Nat → Nat → Bool) (i k : Nat) : rowP fb i (k + 1) = rowP fb i k ++ (if fb i k then [(i, k)] else []) := by
  simp only [rowP, List.range_succ, List.filter_append, List.map_append, List.filter_cons, List.filter_nil]
  split <;> simp
theorem mem_rowP {fb : Nat → Nat → Bool} {i k : Nat} {p : Nat × Nat} : p ∈ rowP fb i k ↔ p.1 = i ∧ p.2 < k ∧ fb i p.2 = true := by
  simp only [rowP, List.mem_map, List.mem_filter, List.mem_range]
  constructor
  · rintro ⟨j, ⟨h1, h2⟩, rfl⟩; exact ⟨rfl, h1, h2⟩
  · rintro ⟨h1, h2, h3⟩; exact ⟨p.2, ⟨h2, h3⟩, by rw [← h1]⟩
theorem mem_posP {fb : Nat → Nat → Bool} {n : Nat} {p : Nat × Nat} : ∀ {k}, p ∈ posP fb n k ↔ p.1 < k ∧ p.2 < n ∧ fb p.1 p.2 = true
  | 0 => by simp [posP]
  | k + 1 => by
    simp only [posP, List.mem_append, mem_posP (k := k), mem_rowP]
    constructor
    · rintro (⟨h1, h2, h3⟩ | ⟨h1, h2, h3⟩)
      · exact ⟨by omega, h2, h3⟩
      · exact ⟨by omega, h2, by rw [h1]; exact h3⟩
    · rintro ⟨h1, h2, h3⟩
      by_cases h : p.1 = k
      · exact .inr ⟨h, h2, by rw [← h]; exact h3⟩
      · exact .inl ⟨by omega, h2, h3⟩
theorem hasP_pos (fb : Nat → Nat → Bool) (n : Nat) (a b : Int) : hasP (posP fb n n) a b = (decide (0 ≤ a ∧ a < n ∧ 0 ≤ b ∧ b < n) && fb a.toNat b.toNat) := by
  rw [Bool.eq_iff_iff]
  simp only [hasP, List.any_eq_true, Bool.and_eq_true, decide_eq_true_eq]
  constructor
  · rintro ⟨p, hp, h1, h2⟩
    obtain ⟨h3, h4, h5⟩ := mem_posP.1 hp
    subst h1; subst h2
    exact ⟨⟨by omega, by omega, by omega, by omega⟩, by simpa using h5⟩
  · rintro ⟨⟨h1, h2, h3, h4⟩, h5⟩
    refine ⟨(a.toNat, b.toNat), mem_posP.2 ⟨by show a.toNat < n; omega, by show b.toNat < n; omega, h5⟩, ?_, ?_⟩
    · show ((a.toNat : Nat) : Int) = a; omega
    · show ((b.toNat : Nat) : Int) = b; omega
end Go.Am
namespace Go.Am
variable [Go.Am.CodeBlk]
/-- The sum of a function over the first numbers. -/
def sumN : Nat → (Nat → Nat) → Nat
  | 0, _ => 0
  | k + 1, f => sumN k f + f k
theorem sumN_congr {f g : Nat → Nat} : ∀ {n : Nat}, (∀ c, c < n → f c = g c) → sumN n f = sumN n g
  | 0, _ => rfl
  | n + 1, h => by rw [sumN, sumN, sumN_congr fun c hc => h c (by omega), h n (by omega)]
theorem sumN_add (f g : Nat → Nat) : ∀ n : Nat, sumN n (fun c => f c + g c) = sumN n f + sumN n g
  | 0 => rfl
  | n + 1 => by simp only [sumN]; rw [sumN_add f g n]; omega
theorem sumN_zero : ∀ n : Nat, sumN n (fun _ => 0) = 0
  | 0 => rfl
  | n + 1 => by simp only [sumN]; rw [sumN_zero n]
theorem sumN_comm (h : Nat → Nat → Nat) (m : Nat) : ∀ n : Nat, sumN n (fun a => sumN m (fun b => h a b)) = sumN m (fun b => sumN n (fun a => h a b))
  | 0 => by simp only [sumN]; rw [sumN_zero]
  | n + 1 => by simp only [sumN]; rw [sumN_comm h m n, ← sumN_add]
theorem sumN_le {f g : Nat → Nat} : ∀ {n : Nat}, (∀ c, c < n → f c ≤ g c) → sumN n f ≤ sumN n g
  | 0, _ => Nat.le_refl _
  | n + 1, h => Nat.add_le_add (sumN_le fun c hc => h c (by omega)) (h n (by omega))
theorem sumN_const (c : Nat) : ∀ n : Nat, sumN n (fun _ => c) = n * c
  | 0 => by simp [sumN]
  | n + 1 => by simp only [sumN]; rw [sumN_const c n, Nat.succ_mul]
/-- A column more. -/
def insC (T c : Nat) : Nat := T ||| 1 <<< c
theorem insC_bit (T c k : Nat) : (insC T c).testBit k = (T.testBit k || decide (c = k)) := by
  unfold insC
  rw [Nat.testBit_or, Nat.one_shiftLeft, Nat.testBit_two_pow]
theorem insC_comm (T c d : Nat) : insC (insC T c) d = insC (insC T d) c := by
  apply Nat.eq_of_testBit_eq
  intro k
  simp only [insC_bit, Bool.or_assoc]
  congr 1
  rw [Bool.or_comm]
theorem insC_lt {T c n : Nat} (hT : T < 2 ^ n) (hc : c < n) : insC T c < 2 ^ n := by
  unfold insC
  refine Nat.or_lt_two_pow hT ?_
  rw [Nat.one_shiftLeft]
  exact Nat.pow_lt_pow_right (by omega) hc
/-- What a row's term for one column adds. -/
def addC (row : Nat → Bool) (g : Nat → Nat) (T c : Nat) : Nat := if row c && !T.testBit c then g (insC T c) else 0
/-- What a row makes of a test of sets, by its first columns: no rook, or a rook in one of them. -/
def stepR (n : Nat) (row : Nat → Bool) (g : Nat → Nat) (T : Nat) : Nat := g T + sumN n (addC row g T)
theorem stepR_comm (n : Nat) (r s : Nat → Bool) (g : Nat → Nat) (T : Nat) : stepR n r (stepR n s g) T = stepR n s (stepR n r g) T := by
  have key : ∀ r s : Nat → Bool, stepR n r (stepR n s g) T = g T + sumN n (addC s g T) + sumN n (addC r g T) + sumN n (fun c => sumN n (fun d => if (r c && !T.testBit c) && (s d && !(insC T c).testBit d) then g (insC (insC T c) d) else 0)) := by
    intro r s
    have : ∀ c, addC r (stepR n s g) T c = addC r g T c + sumN n (fun d => if (r c && !T.testBit c) && (s d && !(insC T c).testBit d) then g (insC (insC T c) d) else 0) := by
      intro c
      unfold addC stepR
      cases hb : (r c && !T.testBit c)
      · simp [sumN_zero]
      · simp only [if_true, Bool.true_and]
        rfl
    rw [stepR, sumN_congr fun c _ => this c, sumN_add, stepR]
    omega
  rw [key r s, key s r, sumN_comm]
  have : ∀ b, b < n → ∀ a, a < n → (if (r a && !T.testBit a) && (s b && !(insC T a).testBit b) then g (insC (insC T a) b) else 0) = (if (s b && !T.testBit b) && (r a && !(insC T b).testBit a) then g (insC (insC T b) a) else 0) := by
    intro b _ a _
    rw [insC_comm T a b, insC_bit, insC_bit]
    by_cases hab : a = b
    · subst hab; simp
    · have hba : ¬ b = a := fun e => hab e.symm
      simp only [hab, hba, decide_false, Bool.or_false]
      congr 2
      cases r a <;> cases s b <;> cases T.testBit a <;> cases T.testBit b <;> rfl
  have h2 : sumN n (fun b => sumN n (fun a => if (r a && !T.testBit a) && (s b && !(insC T a).testBit b) then g (insC (insC T a) b) else 0)) = sumN n (fun c => sumN n (fun d => if (s c && !T.testBit c) && (r d && !(insC T c).testBit d) then g (insC (insC T c) d) else 0)) :=
    sumN_congr fun b hb => sumN_congr fun a ha => this b hb a ha
  rw [h2]
  omega
theorem stepR_none {n : Nat} {row : Nat → Bool} (h : ∀ c, c < n → row c = false) (g : Nat → Nat) (T : Nat) : stepR n row g T = g T := by
  rw [stepR, sumN_congr (g := fun _ => 0) fun c hc => by simp [addC, h c hc], sumN_zero]
  rfl
/-- Rows, the first one outermost. -/
def rowsR (fb : Nat → Nat → Bool) (n : Nat) : List Nat → (Nat → Nat) → Nat → Nat
  | [], g => g
  | r :: l, g => stepR n (fb r) (rowsR fb n l g)
theorem rowsR_snoc (fb : Nat → Nat → Bool) (n r : Nat) (g : Nat → Nat) : ∀ l : List Nat, rowsR fb n (l ++ [r]) g = rowsR fb n l (stepR n (fb r) g)
  | [] => rfl
  | a :: l => by simp only [List.cons_append, rowsR]; rw [rowsR_snoc fb n r g l]
theorem rowsR_perm {fb : Nat → Nat → Bool} {n : Nat} {l m : List Nat} (h : l.Perm m) (g : Nat → Nat) : rowsR fb n l g = rowsR fb n m g := by
  induction h with
  | nil => rfl
  | cons a _ ih => simp only [rowsR, ih]
  | swap a b l => funext T; exact stepR_comm n (fb b) (fb a) _ T
  | trans _ _ ih1 ih2 => rw [ih1, ih2]
/-- Rows on which nothing is forbidden don't matter. -/
theorem rowsR_filter {fb : Nat → Nat → Bool} {n : Nat} (p : Nat → Bool) : ∀ (l : List Nat), (∀ r ∈ l, p r = false → ∀ c, c < n → fb r c = false) → ∀ g : Nat → Nat, rowsR fb n (l.filter p) g = rowsR fb n l g
  | [], _, _ => rfl
  | r :: l, h, g => by
    have ih := rowsR_filter p l (fun r hr => h r (by simp [hr])) g
    rw [List.filter_cons]
    cases hp : p r
    · simp only [Bool.false_eq_true, if_false, rowsR]
      rw [ih]
      funext T
      exact (stepR_none (h r (by simp) hp) _ T).symm
    · simp only [if_true, rowsR, ih]
/-- All rows that count were taken, each once, in whatever order. -/
theorem rowsR_any {fb : Nat → Nat → Bool} {n : Nat} {l : List Nat} (hn : l.Nodup) (hl : ∀ r ∈ l, r < n) (hall : ∀ r, r < n → r ∉ l → ∀ c, c < n → fb r c = false) (g : Nat → Nat) : rowsR fb n l g = rowsR fb n (List.range n) g := by
  have hp : l.Perm ((List.range n).filter fun r => decide (r ∈ l)) := by
    refine (List.perm_ext_iff_of_nodup hn (List.nodup_range.filter _)).2 fun a => ?_
    simp only [List.mem_filter, List.mem_range, decide_eq_true_eq]
    exact ⟨fun h => ⟨hl a h, h⟩, fun h => h.2⟩
  rw [rowsR_perm hp]
  exact rowsR_filter _ _ (fun r hr hp c hc => hall r (List.mem_range.1 hr) (by simpa using hp) c hc) g
theorem stepR_le {n : Nat} {row : Nat → Bool} {g : Nat → Nat} {b : Nat} (h : ∀ T, g T ≤ b) (T : Nat) : stepR n row g T ≤ (n + 1) * b := by
  have h1 : sumN n (addC row g T) ≤ n * b := by
    rw [← sumN_const]
    refine sumN_le fun c _ => ?_
    unfold addC
    split
    · exact h _
    · omega
  have := h T
  rw [stepR, Nat.succ_mul]
  omega
theorem rowsR_le {fb : Nat → Nat → Bool} {n : Nat} {g : Nat → Nat} {b : Nat} (h : ∀ T, g T ≤ b) : ∀ (l : List Nat) (T : Nat), rowsR fb n l g T ≤ (n + 1) ^ l.length * b
  | [], T => by simpa [rowsR] using h T
  | r :: l, T => by
    have := stepR_le (n := n) (row := fb r) (rowsR_le (fb := fb) (n := n) h l) T
    rw [List.length_cons, Nat.pow_succ, Nat.mul_comm _ (n + 1), Nat.mul_assoc]
    exact this
/-- How many columns a set has. -/
def pop16 (T : Nat) : Nat := sumN 16 fun k => if T.testBit k then 1 else 0
theorem pop_ins {T c : Nat} (hc : c < 16) (h : T.testBit c = false) : pop16 (insC T c) = pop16 T + 1 := by
  have key : ∀ m, sumN m (fun k => if (insC T c).testBit k then 1 else 0) = sumN m (fun k => if T.testBit k then 1 else 0) + (if c < m then 1 else 0) := by
    intro m
    induction m with
    | zero => simp [sumN]
    | succ m ih =>
      simp only [sumN]
      rw [ih, insC_bit]
      by_cases hm : c = m
      · subst hm; simp [h]
      · by_cases h1 : c < m
        · simp [hm, h1, show c < m + 1 by omega]; omega
        · simp [hm, h1, show ¬ c < m + 1 by omega]
  have := key 16
  unfold pop16
  rw [this, if_pos hc]
/-- In how many ways so many rooks can be put in the last rows, with columns taken. -/
def rkG (fb : Nat → Nat → Bool) (n : Nat) : Nat → Nat → Nat → Nat
  | 0, _, k => if k = 0 then 1 else 0
  | m + 1, S, k => rkG fb n m S k + sumN n fun j => if fb (n - (m + 1)) j && !S.testBit j then (match k with | 0 => 0 | q + 1 => rkG fb n m (insC S j) q) else 0
/-- The last rows. -/
def lastR (n : Nat) : Nat → List Nat
  | 0 => []
  | m + 1 => (n - (m + 1)) :: lastR n m
theorem lastR_range (n : Nat) : ∀ m, m ≤ n → lastR n m = List.range' (n - m) m
  | 0, _ => rfl
  | m + 1, h => by rw [lastR, lastR_range n m (by omega), List.range'_succ, show n - (m + 1) + 1 = n - m by omega]
theorem lastR_all (n : Nat) : lastR n n = List.range n := by rw [lastR_range n n (Nat.le_refl _), Nat.sub_self, List.range_eq_range']
def popIs (q T : Nat) : Nat := if pop16 T = q then 1 else 0
theorem rowsR_small {fb : Nat → Nat → Bool} {n q : Nat} (hn : n ≤ 16) : ∀ (l : List Nat) (S : Nat), q < pop16 S → rowsR fb n l (popIs q) S = 0
  | [], S, h => by simp [rowsR, popIs, show pop16 S ≠ q by omega]
  | r :: l, S, h => by
    rw [rowsR, stepR, rowsR_small hn l S h, sumN_congr (g := fun _ => 0) fun c hc => ?_, sumN_zero]
    unfold addC
    split
    · rename_i hb
      simp only [Bool.and_eq_true, Bool.not_eq_true'] at hb
      exact rowsR_small hn l _ (by rw [pop_ins (by omega) hb.2]; omega)
    · rfl
theorem rkG_rows {fb : Nat → Nat → Bool} {n : Nat} (hn : n ≤ 16) : ∀ (m S k : Nat), rkG fb n m S k = rowsR fb n (lastR n m) (popIs (k + pop16 S)) S
  | 0, S, k => by
    simp only [rkG, lastR, rowsR, popIs]
    by_cases h : k = 0
    · simp [h]
    · rw [if_neg h, if_neg (by omega)]
  | m + 1, S, k => by
    rw [rkG, lastR, rowsR, stepR, ← rkG_rows hn m S k]
    congr 1
    refine sumN_congr fun j hj => ?_
    unfold addC
    split
    · rename_i hb
      simp only [Bool.and_eq_true, Bool.not_eq_true'] at hb
      have hp := pop_ins (show j < 16 by omega) hb.2
      cases k with
      | zero => exact (rowsR_small hn _ _ (by rw [hp]; omega)).symm
      | succ q =>
        show rkG fb n m (insC S j) q = _
        rw [rkG_rows hn m (insC S j) q, hp, show q + (pop16 S + 1) = q + 1 + pop16 S by omega]
    · rfl
theorem rkG_big {fb : Nat → Nat → Bool} {n : Nat} : ∀ (m S k : Nat), m < k → rkG fb n m S k = 0
  | 0, S, k, h => by rw [rkG, if_neg (by omega)]
  | m + 1, S, k, h => by
    rw [rkG, rkG_big m S k (by omega), sumN_congr (g := fun _ => 0) fun j _ => ?_, sumN_zero]
    split
    · cases k with
      | zero => rfl
      | succ q => exact rkG_big m _ q (by omega)
    · rfl
theorem rkG_le {fb : Nat → Nat → Bool} {n : Nat} : ∀ (m S k : Nat), rkG fb n m S k ≤ (n + 1) ^ m
  | 0, S, k => by rw [rkG]; split <;> simp
  | m + 1, S, k => by
    have h1 : sumN n (fun j => if fb (n - (m + 1)) j && !S.testBit j then (match k with | 0 => 0 | q + 1 => rkG fb n m (insC S j) q) else 0) ≤ n * (n + 1) ^ m := by
      rw [← sumN_const]
      refine sumN_le fun j _ => ?_
      split
      · cases k with
        | zero => exact Nat.zero_le _
        | succ q => exact rkG_le m _ q
      · omega
    have := rkG_le (fb := fb) (n := n) m S k
    rw [rkG, Nat.pow_succ, Nat.mul_succ, Nat.mul_comm _ n]
    omega
/-- The numbers of rooks of a board. -/
def rkN (fb : Nat → Nat → Bool) (n k : Nat) : Nat := rkG fb n n 0 k
theorem rkN_any {fb : Nat → Nat → Bool} {n : Nat} (h16 : n ≤ 16) {l : List Nat} (hn : l.Nodup) (hl : ∀ r ∈ l, r < n) (hall : ∀ r, r < n → r ∉ l → ∀ c, c < n → fb r c = false) (k : Nat) :
    rowsR fb n l (popIs k) 0 = rkN fb n k := by
  rw [rowsR_any hn hl hall, rkN, rkG_rows h16, lastR_all, show pop16 0 = 0 from by decide]
  rfl

/- Ways asx a map's entries: set, number, stamp. -/
structure RWay where
  t : Nat
  v : Nat
  b : Nat
def RWay.ent (p : RWay) : MapEntry := { key := .int .u16 (p.t : Nat), val := .int .i64 (p.v : Nat), born := p.b }
def sumW (w : List RWay) (g : RWay → Nat) : Nat := (w.map g).sum
theorem sumW_cons (p : RWay) (w : List RWay) (g : RWay → Nat) : sumW (p :: w) g = g p + sumW w g := by simp [sumW]
theorem sumW_snoc (p : RWay) (w : List RWay) (g : RWay → Nat) : sumW (w ++ [p]) g = sumW w g + g p := by simp [sumW]
theorem sumW_congr {w : List RWay} {g h : RWay → Nat} (he : ∀ p ∈ w, g p = h p) : sumW w g = sumW w h := by
  unfold sumW
  rw [List.map_congr_left he]
theorem sumW_add (w : List RWay) (g h : RWay → Nat) : sumW w (fun p => g p + h p) = sumW w g + sumW w h := by
  induction w with
  | nil => rfl
  | cons p w ih => simp only [sumW_cons]; rw [ih]; omega
theorem sumW_le {w : List RWay} {g : RWay → Nat} {p : RWay} (h : p ∈ w) : g p ≤ sumW w g := by
  induction w with
  | nil => simp at h
  | cons q w ih =>
    rw [sumW_cons]
    rcases List.mem_cons.1 h with rfl | h
    · omega
    · have := ih h; omega
theorem sumW_mono {w : List RWay} {g h : RWay → Nat} (he : ∀ p ∈ w, g p ≤ h p) : sumW w g ≤ sumW w h := by
  induction w with
  | nil => exact Nat.le_refl _
  | cons q w ih => rw [sumW_cons, sumW_cons]; exact Nat.add_le_add (he q (by simp)) (ih fun p hp => he p (by simp [hp]))
/-- Ways asx a map can hold them. -/
structure WaysOk (n ck : Nat) (w : List RWay) : Prop where
  keys : (w.map (·.t)).Nodup
  born : (w.map (·.b)).Nodup
  old : ∀ p ∈ w, p.b < ck
  lt : ∀ p ∈ w, p.t < 2 ^ n
/-- The weighed sum of a test of sets. -/
def wE (w : List RWay) (g : Nat → Nat) : Nat := sumW w fun p => p.v * g p.t
/-- A number more at a set. -/
theorem ways_set {n ck : Nat} {w : List RWay} (h : WaysOk n ck w) {k : Nat} {p : RWay} (hk : w[k]? = some p) (m : Nat) :
    WaysOk n ck (w.set k { p with v := p.v + m }) ∧ ∀ g, wE (w.set k { p with v := p.v + m }) g = wE w g + m * g p.t := by
  have hmap : ∀ (f : RWay → Nat), f { p with v := p.v + m } = f p → (w.set k { p with v := p.v + m }).map f = w.map f := by
    intro f hf
    rw [List.map_set, hf]
    apply List.ext_getElem?
    intro j
    rw [List.getElem?_set]
    split
    · rename_i e
      subst e
      rw [List.length_map]
      have hlt : k < w.length := (List.getElem?_eq_some_iff.1 hk).1
      rw [if_pos hlt, List.getElem?_map, hk]
      rfl
    · rfl
  refine ⟨⟨by rw [hmap _ rfl]; exact h.keys, by rw [hmap _ rfl]; exact h.born, fun q hq => ?_, fun q hq => ?_⟩, fun g => ?_⟩
  · rcases List.mem_or_eq_of_mem_set hq with hq | rfl
    · exact h.old q hq
    · exact h.old p (List.mem_of_getElem? hk)
  · rcases List.mem_or_eq_of_mem_set hq with hq | rfl
    · exact h.lt q hq
    · exact h.lt p (List.mem_of_getElem? hk)
  · have key : ∀ (w : List RWay) (k : Nat), w[k]? = some p → wE (w.set k { p with v := p.v + m }) g = wE w g + m * g p.t := by
      intro w
      induction w with
      | nil => intro k hk; simp at hk
      | cons q w ih =>
        intro k hk
        cases k with
        | zero =>
          simp at hk
          subst hk
          simp only [List.set_cons_zero, wE, sumW_cons]
          rw [Nat.add_mul]; omega
        | succ k =>
          have := ih k (by simpa using hk)
          simp only [List.set_cons_succ, wE, sumW_cons] at this ⊢
          omega
    exact key w k hk
theorem ways_push {n ck : Nat} {w : List RWay} (h : WaysOk n ck w) {T : Nat} (hT : T < 2 ^ n) (hno : ∀ p ∈ w, p.t ≠ T) (m : Nat) :
    WaysOk n (ck + 1) (w ++ [⟨T, m, ck⟩]) ∧ ∀ g, wE (w ++ [⟨T, m, ck⟩]) g = wE w g + m * g T := by
  refine ⟨⟨?_, ?_, fun q hq => ?_, fun q hq => ?_⟩, fun g => by simp only [wE, sumW_snoc]⟩
  · rw [List.map_append, List.nodup_append]
    refine ⟨h.keys, by simp, fun a ha b hb => ?_⟩
    obtain ⟨p, hp, rfl⟩ := List.mem_map.1 ha
    simp at hb
    rw [hb]
    exact hno p hp
  · rw [List.map_append, List.nodup_append]
    refine ⟨h.born, by simp, fun a ha b hb => ?_⟩
    obtain ⟨p, hp, rfl⟩ := List.mem_map.1 ha
    simp at hb
    have := h.old p hp
    omega
  · rcases List.mem_append.1 hq with hq | hq
    · have := h.old q hq; omega
    · simp at hq; subst hq; show ck < ck + 1; omega
  · rcases List.mem_append.1 hq with hq | hq
    · exact h.lt q hq
    · simp at hq; subst hq; exact hT
/-- One entry more is seen. -/
theorem sumW_seen {w : List RWay} (hn : (w.map (·.b)).Nodup) {seen : Array Nat} {p : RWay} (hp : p ∈ w) (hs : seen.contains p.b = false) (g : RWay → Nat) :
    sumW w (fun q => if (seen.push p.b).contains q.b then g q else 0) = sumW w (fun q => if seen.contains q.b then g q else 0) + g p := by
  have hpush : ∀ b, (seen.push p.b).contains b = (seen.contains b || decide (b = p.b)) := by
    intro b
    by_cases e : b = p.b
    · subst e; simp
    · simp [e]
  induction w with
  | nil => simp at hp
  | cons q w ih =>
    simp only [List.map_cons, List.nodup_cons] at hn
    simp only [sumW_cons]
    rcases List.mem_cons.1 hp with rfl | hp
    · have h1 : sumW w (fun r => if (seen.push p.b).contains r.b then g r else 0) = sumW w (fun r => if seen.contains r.b then g r else 0) := by
        refine sumW_congr fun r hr => ?_
        have : r.b ≠ p.b := fun e => hn.1 (List.mem_map.2 ⟨r, hr, e⟩)
        rw [hpush]
        simp [this]
      rw [h1, hpush, hs]
      simp
      omega
    · have hne : q.b ≠ p.b := fun e => hn.1 (List.mem_map.2 ⟨p, hp, e.symm⟩)
      rw [ih hn.2 hp, hpush]
      simp only [hne, decide_false, Bool.or_false]
      omega
theorem sumW_none (w : List RWay) (g : RWay → Nat) : sumW w (fun q => if (#[] : Array Nat).contains q.b then g q else 0) = 0 := by
  induction w with
  | nil => rfl
  | cons q w ih => rw [sumW_cons, ih]; simp
/-- How many entries are still to come. -/
def leftW (w : List RWay) (seen : Array Nat) : Nat := (w.filter fun q => !seen.contains q.b).length
theorem leftW_lt {w : List RWay} {seen : Array Nat} {p : RWay} (hp : p ∈ w) (hs : seen.contains p.b = false) : leftW w (seen.push p.b) < leftW w seen := by
  have hpush : ∀ b, (seen.push p.b).contains b = (seen.contains b || decide (b = p.b)) := by
    intro b
    by_cases e : b = p.b
    · subst e; simp
    · simp [e]
  unfold leftW
  have hsub : ∀ w : List RWay, (w.filter fun q => !(seen.push p.b).contains q.b) = (w.filter fun q => !seen.contains q.b).filter fun q => !decide (q.b = p.b) := by
    intro w
    rw [List.filter_filter]
    refine List.filter_congr fun q _ => ?_
    rw [hpush, Bool.not_or, Bool.and_comm]
  rw [hsub]
  have hm : p ∈ w.filter fun q => !seen.contains q.b := List.mem_filter.2 ⟨hp, by rw [hs]; rfl⟩
  refine List.length_filter_lt_length_iff_exists.2 ⟨p, hm, by simp⟩
end Go.Am
namespace Go.Am
variable [Go.Am.CodeBlk]
theorem sumN_succ' (f : Nat → Nat) : ∀ n : Nat, sumN (n + 1) f = f 0 + sumN n fun k => f (k + 1)
  | 0 => by simp [sumN]
  | n + 1 => by
    rw [sumN, sumN_succ' f n, sumN]
    omega
theorem sumN_mul (a : Nat) (f : Nat → Nat) : ∀ n : Nat, sumN n (fun c => a * f c) = a * sumN n f
  | 0 => rfl
  | n + 1 => by simp only [sumN]; rw [sumN_mul a f n, Nat.mul_add]
/-- Choices. -/
def bi : Nat → Nat → Nat
  | _, 0 => 1
  | 0, _ + 1 => 0
  | n + 1, k + 1 => bi n k + bi n (k + 1)
theorem bi_big : ∀ n k : Nat, n < k → bi n k = 0
  | _, 0, h => absurd h (by omega)
  | 0, _ + 1, _ => rfl
  | n + 1, k + 1, h => by rw [bi, bi_big n k (by omega), bi_big n (k + 1) (by omega)]
theorem bi_self : ∀ n : Nat, bi n n = 1
  | 0 => rfl
  | n + 1 => by rw [bi, bi_self n, bi_big n (n + 1) (by omega)]
def fcN : Nat → Nat
  | 0 => 1
  | n + 1 => (n + 1) * fcN n
/-- The columns that are free. -/
def freeN (n S : Nat) : Nat := sumN n fun c => if S.testBit c then 0 else 1
theorem free_ins {n S d : Nat} (hd : d < n) (h : S.testBit d = false) : freeN n (insC S d) + 1 = freeN n S := by
  have key : ∀ m, sumN m (fun c => if (insC S d).testBit c then 0 else 1) + (if d < m then 1 else 0) = sumN m (fun c => if S.testBit c then 0 else 1) := by
    intro m
    induction m with
    | zero => simp [sumN]
    | succ m ih =>
      simp only [sumN]
      rw [← ih, insC_bit]
      by_cases hm : d = m
      · subst hm; simp [h]
      · by_cases h1 : d < m
        · simp [hm, h1, show d < m + 1 by omega]; omega
        · simp [hm, h1, show ¬ d < m + 1 by omega]
  have := key n
  unfold freeN
  rw [← this, if_pos hd]
theorem free_all (n : Nat) : freeN n 0 = n := by
  unfold freeN
  rw [sumN_congr (g := fun _ => 1) fun c _ => by simp, sumN_const]
  omega
/-- What is summed up over the free columns. -/
def sumF (n S : Nat) (f : Nat → Nat) : Nat := sumN n fun c => if S.testBit c then 0 else f c
theorem sumF_add (n S : Nat) (f g : Nat → Nat) : sumF n S (fun c => f c + g c) = sumF n S f + sumF n S g := by
  unfold sumF
  rw [← sumN_add]
  exact sumN_congr fun c _ => by split <;> rfl
theorem sumF_mul (n S a : Nat) (f : Nat → Nat) : sumF n S (fun c => a * f c) = a * sumF n S f := by
  unfold sumF
  rw [← sumN_mul]
  exact sumN_congr fun c _ => by split <;> simp
theorem sumF_congr {n S : Nat} {f g : Nat → Nat} (h : ∀ c, c < n → S.testBit c = false → f c = g c) : sumF n S f = sumF n S g := by
  unfold sumF
  refine sumN_congr fun c hc => ?_
  cases hb : S.testBit c
  · simp [h c hc hb]
  · simp
theorem sumF_const (n S a : Nat) : sumF n S (fun _ => a) = freeN n S * a := by
  unfold sumF freeN
  rw [Nat.mul_comm, ← sumN_mul]
  exact sumN_congr fun c _ => by split <;> simp
theorem sumF_comm (n S : Nat) (f : Nat → Nat → Nat) : sumF n S (fun c => sumF n (insC S c) (f c)) = sumF n S (fun d => sumF n (insC S d) (fun c => f c d)) := by
  have key : ∀ f : Nat → Nat → Nat, sumF n S (fun c => sumF n (insC S c) (f c)) = sumN n fun c => sumN n fun d => if S.testBit c || (S.testBit d || decide (c = d)) then 0 else f c d := by
    intro f
    unfold sumF
    refine sumN_congr fun c _ => ?_
    cases hb : S.testBit c
    · simp only [Bool.false_or, Bool.false_eq_true, if_false]
      refine sumN_congr fun d _ => ?_
      rw [insC_bit]
    · simp [sumN_zero]
  rw [key, key, sumN_comm]
  refine sumN_congr fun b _ => sumN_congr fun a _ => ?_
  have : (S.testBit a || (S.testBit b || decide (a = b))) = (S.testBit b || (S.testBit a || decide (b = a))) := by
    rw [show decide (a = b) = decide (b = a) from decide_eq_decide.2 eq_comm]
    cases S.testBit a <;> cases S.testBit b <;> rfl
  rw [this]
/-- One rook more, in the row ahead. -/
def onR (fb : Nat → Nat → Bool) (n m S : Nat) (f : Nat → Nat) : Nat := sumF n S fun d => if fb (n - (m + 1)) d then f d else 0
theorem rkG_zero (fb : Nat → Nat → Bool) (n : Nat) : ∀ m S, rkG fb n m S 0 = 1
  | 0, _ => rfl
  | m + 1, S => by
    rw [rkG, rkG_zero fb n m S, sumN_congr (g := fun _ => 0) fun j _ => by split <;> rfl, sumN_zero]
theorem rkG_on (fb : Nat → Nat → Bool) (n m S q : Nat) : rkG fb n (m + 1) S (q + 1) = rkG fb n m S (q + 1) + onR fb n m S fun d => rkG fb n m (insC S d) q := by
  rw [rkG]
  unfold onR sumF
  congr 1
  refine sumN_congr fun j _ => ?_
  show (if (fb (n - (m + 1)) j && !S.testBit j) = true then rkG fb n m (insC S j) q else 0) = (if S.testBit j = true then 0 else if fb (n - (m + 1)) j = true then rkG fb n m (insC S j) q else 0)
  cases fb (n - (m + 1)) j <;> cases S.testBit j <;> rfl
/-- A free column more is taken: each way counts for those that it leaves free. -/
theorem rk_free (fb : Nat → Nat → Bool) (n : Nat) : ∀ m S k, sumF n S (fun c => rkG fb n m (insC S c) k) + k * rkG fb n m S k = freeN n S * rkG fb n m S k
  | m, S, 0 => by
    rw [sumF_congr (g := fun _ => 1) fun c _ _ => rkG_zero fb n m _, sumF_const, rkG_zero]
    omega
  | 0, S, k + 1 => by
    have e : ∀ T, rkG fb n 0 T (k + 1) = 0 := fun T => rfl
    rw [sumF_congr (g := fun _ => 0) fun c _ _ => e _, sumF_const, e]
    omega
  | m + 1, S, q + 1 => by
    have ih1 := rk_free fb n m S (q + 1)
    rw [sumF_congr fun c _ _ => rkG_on fb n m (insC S c) q, sumF_add, rkG_on]
    have e1 : sumF n S (fun c => onR fb n m (insC S c) fun d => rkG fb n m (insC (insC S c) d) q) + (q + 1) * onR fb n m S (fun d => rkG fb n m (insC S d) q) = freeN n S * onR fb n m S fun d => rkG fb n m (insC S d) q := by
      unfold onR
      rw [sumF_comm n S (fun c d => if fb (n - (m + 1)) d then rkG fb n m (insC (insC S c) d) q else 0), ← sumF_mul, ← sumF_mul, ← sumF_add]
      refine sumF_congr fun d hd hb => ?_
      cases hf : fb (n - (m + 1)) d
      · simp only [Bool.false_eq_true, if_false, Nat.mul_zero, Nat.add_zero]
        rw [sumF_const, Nat.mul_zero]
      · simp only [if_true]
        have ih2 := rk_free fb n m (insC S d) q
        have hfr := free_ins hd hb
        rw [sumF_congr (g := fun c => rkG fb n m (insC (insC S d) c) q) fun c _ _ => by rw [insC_comm], ← hfr, Nat.add_mul, Nat.add_mul]
        omega
    rw [Nat.mul_add, Nat.mul_add]
    omega
/-- Exchanges that go on in the last rows, by their hits. -/
def hitW (fb : Nat → Nat → Bool) (n : Nat) : Nat → Nat → Nat → Nat
  | 0, _, k => if k = 0 then 1 else 0
  | m + 1, S, k => sumF n S fun j => if fb (n - (m + 1)) j then (match k with | 0 => 0 | q + 1 => hitW fb n m (insC S j) q) else hitW fb n m (insC S j) k
theorem hitW_big (fb : Nat → Nat → Bool) (n : Nat) : ∀ m S k, m < k → hitW fb n m S k = 0
  | 0, S, k, h => by rw [hitW, if_neg (by omega)]
  | m + 1, S, k, h => by
    rw [hitW, sumF_congr (g := fun _ => 0) fun j _ _ => ?_, sumF_const, Nat.mul_zero]
    split
    · cases k with
      | zero => rfl
      | succ q => exact hitW_big fb n m _ q (by omega)
    · exact hitW_big fb n m _ k (by omega)
/-- The hits, chosen so many of. -/
def chG (fb : Nat → Nat → Bool) (n m S j : Nat) : Nat := sumN (m + 1) fun k => bi k j * hitW fb n m S k
theorem sumN_sumF (n S : Nat) (f : Nat → Nat → Nat) : ∀ u, sumN u (fun k => sumF n S (f k)) = sumF n S fun c => sumN u fun k => f k c
  | 0 => by
    simp only [sumN]
    rw [sumF_const, Nat.mul_zero]
  | u + 1 => by simp only [sumN]; rw [sumN_sumF n S f u, ← sumF_add]
theorem chG_big {fb : Nat → Nat → Bool} {n m S j : Nat} : sumN (m + 2) (fun k => bi k j * hitW fb n m S k) = chG fb n m S j := by
  rw [sumN, hitW_big fb n m S (m + 1) (by omega), Nat.mul_zero]
  rfl
theorem chG_more (fb : Nat → Nat → Bool) (n m S j : Nat) : chG fb n (m + 1) S (j + 1) = sumF n S (fun c => chG fb n m (insC S c) (j + 1)) + onR fb n m S fun c => chG fb n m (insC S c) j := by
  unfold onR
  rw [← sumF_add]
  have e1 : chG fb n (m + 1) S (j + 1) = sumN (m + 2) fun k => sumF n S fun c => bi k (j + 1) * if fb (n - (m + 1)) c then (match k with | 0 => 0 | q + 1 => hitW fb n m (insC S c) q) else hitW fb n m (insC S c) k := by
    unfold chG
    refine sumN_congr fun k _ => ?_
    rw [sumF_mul]
    rfl
  rw [e1, sumN_sumF]
  refine sumF_congr fun c _ _ => ?_
  cases fb (n - (m + 1)) c
  · simp only [Bool.false_eq_true, if_false, Nat.add_zero]
    exact chG_big
  · simp only [if_true]
    rw [sumN_succ']
    have e2 : sumN (m + 1) (fun k => bi (k + 1) (j + 1) * hitW fb n m (insC S c) k) = sumN (m + 1) (fun k => bi k j * hitW fb n m (insC S c) k + bi k (j + 1) * hitW fb n m (insC S c) k) := sumN_congr fun k _ => by rw [bi, Nat.add_mul]
    show bi 0 (j + 1) * 0 + sumN (m + 1) (fun k => bi (k + 1) (j + 1) * hitW fb n m (insC S c) k) = _
    rw [e2, sumN_add]
    unfold chG
    omega
theorem chG_none (fb : Nat → Nat → Bool) (n m S : Nat) : chG fb n (m + 1) S 0 = sumF n S fun c => chG fb n m (insC S c) 0 := by
  have e1 : chG fb n (m + 1) S 0 = sumN (m + 2) fun k => sumF n S fun c => bi k 0 * if fb (n - (m + 1)) c then (match k with | 0 => 0 | q + 1 => hitW fb n m (insC S c) q) else hitW fb n m (insC S c) k := by
    unfold chG
    refine sumN_congr fun k _ => ?_
    rw [sumF_mul]
    rfl
  rw [e1, sumN_sumF]
  refine sumF_congr fun c _ _ => ?_
  cases fb (n - (m + 1)) c
  · simp only [Bool.false_eq_true, if_false]
    exact chG_big
  · simp only [if_true]
    rw [sumN_succ']
    have e2 : sumN (m + 1) (fun k => bi (k + 1) 0 * hitW fb n m (insC S c) k) = sumN (m + 1) (fun k => bi k 0 * hitW fb n m (insC S c) k) := sumN_congr fun k _ => by cases k <;> rfl
    show bi 0 0 * 0 + sumN (m + 1) (fun k => bi (k + 1) 0 * hitW fb n m (insC S c) k) = _
    rw [e2]
    unfold chG
    omega
theorem fc_step {m j : Nat} (h : j ≤ m) : (m + 1 - j) * fcN (m - j) = fcN (m + 1 - j) := by
  rw [show m + 1 - j = m - j + 1 by omega, fcN]
/-- Hits chosen so many of are rooks put, and the other rows put asx one likes. -/
theorem hits_rooks (fb : Nat → Nat → Bool) (n : Nat) : ∀ m S j, freeN n S = m → chG fb n m S j = rkG fb n m S j * fcN (m - j)
  | 0, S, j, _ => by
    show 0 + bi 0 j * hitW fb n 0 S 0 = _
    cases j with
    | zero => rfl
    | succ j =>
      show 0 + 0 * _ = 0 * _
      omega
  | m + 1, S, 0, h => by
    rw [chG_none, sumF_congr (g := fun c => rkG fb n m (insC S c) 0 * fcN m) fun c hc hb => ?_]
    · rw [sumF_congr (g := fun _ => fcN m) fun c _ _ => by rw [rkG_zero, Nat.one_mul], sumF_const, h, rkG_zero, Nat.one_mul]
      rfl
    · have := free_ins hc hb
      exact hits_rooks fb n m (insC S c) 0 (by omega)
  | m + 1, S, j + 1, h => by
    have e1 : sumF n S (fun c => chG fb n m (insC S c) (j + 1)) = fcN (m - (j + 1)) * sumF n S fun c => rkG fb n m (insC S c) (j + 1) := by
      rw [← sumF_mul]
      refine sumF_congr fun c hc hb => ?_
      have := free_ins hc hb
      rw [hits_rooks fb n m (insC S c) (j + 1) (by omega), Nat.mul_comm]
    have e2 : (onR fb n m S fun c => chG fb n m (insC S c) j) = fcN (m - j) * onR fb n m S fun c => rkG fb n m (insC S c) j := by
      unfold onR
      rw [← sumF_mul]
      refine sumF_congr fun c hc hb => ?_
      have := free_ins hc hb
      cases fb (n - (m + 1)) c
      · simp
      · simp only [if_true]
        rw [hits_rooks fb n m (insC S c) j (by omega), Nat.mul_comm]
    have hfree := rk_free fb n m S (j + 1)
    rw [h] at hfree
    rw [chG_more, e1, e2, rkG_on, show m + 1 - (j + 1) = m - j by omega, Nat.add_mul, Nat.mul_comm (fcN (m - j))]
    congr 1
    by_cases hj : j + 1 ≤ m
    · have e3 : sumF n S (fun c => rkG fb n m (insC S c) (j + 1)) = (m - j) * rkG fb n m S (j + 1) := by
        have : (m + 1) * rkG fb n m S (j + 1) = (m - j) * rkG fb n m S (j + 1) + (j + 1) * rkG fb n m S (j + 1) := by
          rw [← Nat.add_mul, show m - j + (j + 1) = m + 1 by omega]
        omega
      have e4 := fc_step hj
      rw [show m + 1 - (j + 1) = m - j by omega] at e4
      rw [e3, ← e4, ← Nat.mul_assoc, Nat.mul_comm (fcN (m - (j + 1))), Nat.mul_comm _ (rkG fb n m S (j + 1))]
    · rw [rkG_big m S (j + 1) (by omega), Nat.zero_mul, sumF_congr (g := fun _ => 0) fun c _ _ => rkG_big m _ (j + 1) (by omega), sumF_const, Nat.mul_zero, Nat.mul_zero]
end Go.Am
namespace Go.Proofs.YtngfogpbljconaaDoor
variable [Go.Am.CodeBlk]
open Go.Am
def ac3 : ACode := (.seq (.ops [⟨(some 6), (.mov (.c (.bool false))), none⟩]) (.seq (.seq (.ops [⟨(some 65), (.mov (.t 0)), none⟩, ⟨(some 66), (.slen (.t 65)), none⟩, ⟨(some 67), (.bin .gtr (.t 66) (.c (.int .i64 1048576))), none⟩, ⟨(some 68), (.mov (.t 67)), none⟩, ⟨(some 69), (.mov (.t 1)), (some (68, false))⟩, ⟨(some 70), (.len (.t 69)), (some (68, false))⟩, ⟨(some 71), (.bin .gtr (.t 70) (.c (.int .i64 10000))), (some (68, false))⟩, ⟨(some 72), (.pick (.t 68) (.c (.bool true)) (.t 71)), none⟩, ⟨(some 73), (.mov (.t 72)), none⟩, ⟨(some 74), (.mov (.t 2)), (some (73, false))⟩, ⟨(some 75), (.slen (.t 74)), (some (73, false))⟩, ⟨(some 76), (.bin .gtr (.t 75) (.c (.int .i64 1048576))), (some (73, false))⟩, ⟨(some 77), (.pick (.t 73) (.c (.bool true)) (.t 76)), none⟩]) (.cond (.t 77) (.seq (.ops [⟨(some 6), (.mov (.c (.bool true))), none⟩]) .ret) .skip)) (.seq (.ops [⟨(some 79), (.mov (.t 0)), none⟩, ⟨(some 80), (.mov (.t 1)), none⟩, ⟨(some 81), (.call 4 [(.t 79), (.t 80)]), none⟩, ⟨(some 78), (.mov (.t 81)), none⟩, ⟨(some 82), (.ext (.t 78) 0), none⟩, ⟨(some 83), (.ext (.t 78) 1), none⟩, ⟨(some 7), (.mov (.t 82)), none⟩, ⟨(some 8), (.mov (.t 83)), none⟩]) (.seq (.ops [⟨(some 85), (.mov (.t 0)), none⟩, ⟨(some 86), (.mov (.t 1)), none⟩, ⟨(some 87), (.call 5 [(.t 85), (.t 86)]), none⟩, ⟨(some 84), (.mov (.t 87)), none⟩, ⟨(some 88), (.ext (.t 84) 0), none⟩, ⟨(some 89), (.ext (.t 84) 1), none⟩, ⟨(some 9), (.mov (.t 88)), none⟩, ⟨(some 10), (.mov (.t 89)), none⟩]) (.seq (.ops [⟨(some 91), (.mov (.t 0)), none⟩, ⟨(some 92), (.mov (.t 1)), none⟩, ⟨(some 93), (.call 6 [(.t 91), (.t 92)]), none⟩, ⟨(some 90), (.mov (.t 93)), none⟩, ⟨(some 94), (.ext (.t 90) 0), none⟩, ⟨(some 95), (.ext (.t 90) 1), none⟩, ⟨(some 11), (.mov (.t 94)), none⟩, ⟨(some 12), (.mov (.t 95)), none⟩]) (.seq (.ops [⟨(some 97), (.mov (.t 0)), none⟩, ⟨(some 98), (.mov (.t 1)), none⟩, ⟨(some 99), (.call 7 [(.t 97), (.t 98)]), none⟩, ⟨(some 96), (.mov (.t 99)), none⟩, ⟨(some 100), (.ext (.t 96) 0), none⟩, ⟨(some 101), (.ext (.t 96) 1), none⟩, ⟨(some 13), (.mov (.t 100)), none⟩, ⟨(some 14), (.mov (.t 101)), none⟩]) (.seq (.ops [⟨(some 103), (.mov (.t 0)), none⟩, ⟨(some 104), (.mov (.t 1)), none⟩, ⟨(some 105), (.call 8 [(.t 103), (.t 104)]), none⟩, ⟨(some 102), (.mov (.t 105)), none⟩, ⟨(some 106), (.ext (.t 102) 0), none⟩, ⟨(some 107), (.ext (.t 102) 1), none⟩, ⟨(some 15), (.mov (.t 106)), none⟩, ⟨(some 16), (.mov (.t 107)), none⟩]) (.seq (.ops [⟨(some 109), (.mov (.t 0)), none⟩, ⟨(some 110), (.mov (.t 1)), none⟩, ⟨(some 111), (.call 9 [(.t 109), (.t 110)]), none⟩, ⟨(some 108), (.mov (.t 111)), none⟩, ⟨(some 112), (.ext (.t 108) 0), none⟩, ⟨(some 113), (.ext (.t 108) 1), none⟩, ⟨(some 17), (.mov (.t 112)), none⟩, ⟨(some 18), (.mov (.t 113)), none⟩]) (.seq (.ops [⟨(some 115), (.mov (.t 0)), none⟩, ⟨(some 116), (.call 10 [(.t 115)]), none⟩, ⟨(some 114), (.mov (.t 116)), none⟩, ⟨(some 117), (.ext (.t 114) 0), none⟩, ⟨(some 118), (.ext (.t 114) 1), none⟩, ⟨(some 19), (.mov (.t 117)), none⟩, ⟨(some 20), (.mov (.t 118)), none⟩]) (.seq (.ops [⟨(some 120), (.mov (.t 0)), none⟩, ⟨(some 121), (.call 11 [(.t 120)]), none⟩, ⟨(some 119), (.mov (.t 121)), none⟩, ⟨(some 122), (.ext (.t 119) 0), none⟩, ⟨(some 123), (.ext (.t 119) 1), none⟩, ⟨(some 21), (.mov (.t 122)), none⟩, ⟨(some 22), (.mov (.t 123)), none⟩]) (.seq (.ops [⟨(some 125), (.mov (.t 0)), none⟩, ⟨(some 126), (.call 12 [(.t 125)]), none⟩, ⟨(some 124), (.mov (.t 126)), none⟩, ⟨(some 127), (.ext (.t 124) 0), none⟩, ⟨(some 128), (.ext (.t 124) 1), none⟩, ⟨(some 23), (.mov (.t 127)), none⟩, ⟨(some 24), (.mov (.t 128)), none⟩]) (.seq (.ops [⟨(some 130), (.mov (.t 0)), none⟩, ⟨(some 131), (.call 13 [(.t 130)]), none⟩, ⟨(some 129), (.mov (.t 131)), none⟩, ⟨(some 132), (.ext (.t 129) 0), none⟩, ⟨(some 133), (.ext (.t 129) 1), none⟩, ⟨(some 25), (.mov (.t 132)), none⟩, ⟨(some 26), (.mov (.t 133)), none⟩]) (.seq (.seq (.ops [⟨(some 134), (.mov (.t 8)), none⟩, ⟨(some 135), (.mov (.t 10)), none⟩, ⟨(some 136), (.beq true (.t 134) (.t 135)), none⟩, ⟨(some 137), (.mov (.t 136)), none⟩, ⟨(some 138), (.mov (.t 7)), (some (137, false))⟩, ⟨(some 139), (.mov (.t 9)), (some (137, false))⟩, ⟨(some 140), (.call 14 [(.t 138), (.t 139)]), (some (137, false))⟩, ⟨(some 141), (.not (.t 140)), (some (137, false))⟩, ⟨(some 142), (.pick (.t 137) (.c (.bool true)) (.t 141)), none⟩, ⟨(some 143), (.mov (.t 142)), none⟩, ⟨(some 144), (.mov (.t 12)), (some (143, false))⟩, ⟨(some 145), (.mov (.t 14)), (some (143, false))⟩, ⟨(some 146), (.beq true (.t 144) (.t 145)), (some (143, false))⟩, ⟨(some 147), (.pick (.t 143) (.c (.bool true)) (.t 146)), none⟩, ⟨(some 148), (.mov (.t 147)), none⟩, ⟨(some 149), (.mov (.t 11)), (some (148, false))⟩, ⟨(some 150), (.mov (.t 13)), (some (148, false))⟩, ⟨(some 151), (.beq true (.t 149) (.t 150)), (some (148, false))⟩, ⟨(some 152), (.pick (.t 148) (.c (.bool true)) (.t 151)), none⟩, ⟨(some 153), (.mov (.t 152)), none⟩, ⟨(some 154), (.mov (.t 16)), (some (153, false))⟩, ⟨(some 155), (.mov (.t 18)), (some (153, false))⟩, ⟨(some 156), (.beq true (.t 154) (.t 155)), (some (153, false))⟩, ⟨(some 157), (.pick (.t 153) (.c (.bool true)) (.t 156)), none⟩, ⟨(some 158), (.mov (.t 157)), none⟩, ⟨(some 159), (.mov (.t 15)), (some (158, false))⟩, ⟨(some 160), (.mov (.t 17)), (some (158, false))⟩, ⟨(some 161), (.bin .neq (.t 159) (.t 160)), (some (158, false))⟩, ⟨(some 162), (.pick (.t 158) (.c (.bool true)) (.t 161)), none⟩, ⟨(some 163), (.mov (.t 162)), none⟩, ⟨(some 164), (.mov (.t 20)), (some (163, false))⟩, ⟨(some 165), (.mov (.t 22)), (some (163, false))⟩, ⟨(some 166), (.beq true (.t 164) (.t 165)), (some (163, false))⟩, ⟨(some 167), (.pick (.t 163) (.c (.bool true)) (.t 166)), none⟩, ⟨(some 168), (.mov (.t 167)), none⟩, ⟨(some 169), (.mov (.t 19)), (some (168, false))⟩, ⟨(some 170), (.mov (.t 21)), (some (168, false))⟩, ⟨(some 171), (.call 14 [(.t 169), (.t 170)]), (some (168, false))⟩, ⟨(some 172), (.not (.t 171)), (some (168, false))⟩, ⟨(some 173), (.pick (.t 168) (.c (.bool true)) (.t 172)), none⟩, ⟨(some 174), (.mov (.t 173)), none⟩, ⟨(some 175), (.mov (.t 24)), (some (174, false))⟩, ⟨(some 176), (.mov (.t 26)), (some (174, false))⟩, ⟨(some 177), (.beq true (.t 175) (.t 176)), (some (174, false))⟩, ⟨(some 178), (.pick (.t 174) (.c (.bool true)) (.t 177)), none⟩, ⟨(some 179), (.mov (.t 178)), none⟩, ⟨(some 180), (.mov (.t 23)), (some (179, false))⟩, ⟨(some 181), (.mov (.t 25)), (some (179, false))⟩, ⟨(some 182), (.bin .neq (.t 180) (.t 181)), (some (179, false))⟩, ⟨(some 183), (.pick (.t 179) (.c (.bool true)) (.t 182)), none⟩, ⟨(some 184), (.mov (.t 183)), none⟩, ⟨(some 185), (.mov (.t 24)), (some (184, false))⟩, ⟨(some 186), (.mov (.t 0)), (some (184, false))⟩, ⟨(some 187), (.call 15 [(.t 186)]), (some (184, false))⟩, ⟨(some 188), (.beq true (.t 185) (.t 187)), (some (184, false))⟩, ⟨(some 189), (.pick (.t 184) (.c (.bool true)) (.t 188)), none⟩, ⟨(some 190), (.mov (.t 189)), none⟩, ⟨(some 191), (.mov (.t 0)), (some (190, false))⟩, ⟨(some 192), (.call 15 [(.t 191)]), (some (190, false))⟩, ⟨(some 193), (.mov (.t 0)), (some (190, false))⟩, ⟨(some 194), (.call 16 [(.t 193)]), (some (190, false))⟩, ⟨(some 195), (.beq true (.t 192) (.t 194)), (some (190, false))⟩, ⟨(some 196), (.pick (.t 190) (.c (.bool true)) (.t 195)), none⟩, ⟨(some 197), (.mov (.t 196)), none⟩, ⟨(some 198), (.mov (.t 20)), (some (197, false))⟩, ⟨(some 199), (.mov (.t 24)), (some (197, false))⟩, ⟨(some 200), (.mov (.t 199)), (some (197, false))⟩, ⟨(some 201), (.mov (.t 23)), (some (200, true))⟩, ⟨(some 202), (.bin .gtr (.t 201) (.c (.int .i64 0))), (some (200, true))⟩, ⟨(some 203), (.pick (.t 200) (.t 202) (.c (.bool false))), (some (197, false))⟩, ⟨(some 204), (.beq true (.t 198) (.t 203)), (some (197, false))⟩, ⟨(some 205), (.pick (.t 197) (.c (.bool true)) (.t 204)), none⟩, ⟨(some 206), (.mov (.t 205)), none⟩, ⟨(some 207), (.mov (.t 12)), (some (206, false))⟩, ⟨(some 208), (.mov (.t 207)), (some (206, false))⟩, ⟨(some 209), (.mov (.t 24)), (some (208, true))⟩, ⟨(some 210), (.not (.t 209)), (some (208, true))⟩, ⟨(some 211), (.pick (.t 208) (.t 210) (.c (.bool false))), (some (206, false))⟩, ⟨(some 212), (.pick (.t 206) (.c (.bool true)) (.t 211)), none⟩, ⟨(some 213), (.mov (.t 212)), none⟩, ⟨(some 214), (.mov (.t 16)), (some (213, false))⟩, ⟨(some 215), (.mov (.t 12)), (some (213, false))⟩, ⟨(some 216), (.beq true (.t 214) (.t 215)), (some (213, false))⟩, ⟨(some 217), (.pick (.t 213) (.c (.bool true)) (.t 216)), none⟩, ⟨(some 218), (.mov (.t 217)), none⟩, ⟨(some 219), (.mov (.t 12)), (some (218, false))⟩, ⟨(some 220), (.mov (.t 219)), (some (218, false))⟩, ⟨(some 221), (.mov (.t 11)), (some (220, true))⟩, ⟨(some 222), (.mov (.t 15)), (some (220, true))⟩, ⟨(some 223), (.bin .eql (.t 222) (.c (.int .i64 0))), (some (220, true))⟩, ⟨(some 224), (.beq true (.t 221) (.t 223)), (some (220, true))⟩, ⟨(some 225), (.pick (.t 220) (.t 224) (.c (.bool false))), (some (218, false))⟩, ⟨(some 226), (.pick (.t 218) (.c (.bool true)) (.t 225)), none⟩, ⟨(some 227), (.mov (.t 226)), none⟩, ⟨(some 228), (.mov (.t 8)), (some (227, false))⟩, ⟨(some 229), (.mov (.t 228)), (some (227, false))⟩, ⟨(some 230), (.mov (.t 12)), (some (229, true))⟩, ⟨(some 231), (.not (.t 230)), (some (229, true))⟩, ⟨(some 232), (.pick (.t 229) (.t 231) (.c (.bool false))), (some (227, false))⟩, ⟨(some 233), (.pick (.t 227) (.c (.bool true)) (.t 232)), none⟩]) (.cond (.t 233) (.seq (.ops [⟨(some 6), (.mov (.c (.bool false))), none⟩]) .ret) .skip)) (.seq (.seq (.ops [⟨(some 234), (.mov (.t 20)), none⟩]) (.cond (.t 234) (.seq (.ops [⟨(some 236), (.mov (.t 0)), none⟩, ⟨(some 237), (.mov (.t 19)), none⟩, ⟨(some 238), (.call 8 [(.t 236), (.t 237)]), none⟩, ⟨(some 235), (.mov (.t 238)), none⟩, ⟨(some 239), (.ext (.t 235) 0), none⟩, ⟨(some 240), (.ext (.t 235) 1), none⟩, ⟨(some 27), (.mov (.t 239)), none⟩, ⟨(some 28), (.mov (.t 240)), none⟩]) (.seq (.ops [⟨(some 241), (.mov (.t 28)), none⟩, ⟨(some 242), (.not (.t 241)), none⟩, ⟨(some 243), (.mov (.t 242)), none⟩, ⟨(some 244), (.mov (.t 27)), (some (243, false))⟩, ⟨(some 245), (.bin .neq (.t 244) (.c (.int .i64 0))), (some (243, false))⟩, ⟨(some 246), (.pick (.t 243) (.c (.bool true)) (.t 245)), none⟩, ⟨(some 247), (.mov (.t 246)), none⟩, ⟨(some 248), (.mov (.t 12)), (some (247, false))⟩, ⟨(some 249), (.mov (.t 248)), (some (247, false))⟩, ⟨(some 250), (.mov (.t 11)), (some (249, true))⟩, ⟨(some 251), (.pick (.t 249) (.t 250) (.c (.bool false))), (some (247, false))⟩, ⟨(some 252), (.mov (.t 251)), (some (247, false))⟩, ⟨(some 253), (.mov (.t 1)), (some (252, true))⟩, ⟨(some 254), (.mov (.t 19)), (some (252, true))⟩, ⟨(some 255), (.call 17 [(.t 253), (.t 254)]), (some (252, true))⟩, ⟨(some 256), (.pick (.t 252) (.t 255) (.c (.bool false))), (some (247, false))⟩, ⟨(some 257), (.pick (.t 247) (.c (.bool true)) (.t 256)), none⟩]) (.cond (.t 257) (.seq (.ops [⟨(some 6), (.mov (.c (.bool false))), none⟩]) .ret) .skip))) .skip)) (.seq (.seq (.ops [⟨(some 258), (.mov (.t 8)), none⟩]) (.cond (.t 258) (.seq (.ops [⟨(some 260), (.mov (.t 0)), none⟩, ⟨(some 261), (.mov (.t 7)), none⟩, ⟨(some 262), (.call 8 [(.t 260), (.t 261)]), none⟩, ⟨(some 259), (.mov (.t 262)), none⟩, ⟨(some 263), (.ext (.t 259) 0), none⟩, ⟨(some 264), (.ext (.t 259) 1), none⟩, ⟨(some 29), (.mov (.t 263)), none⟩, ⟨(some 30), (.mov (.t 264)), none⟩]) (.seq (.ops [⟨(some 265), (.mov (.t 30)), none⟩, ⟨(some 266), (.not (.t 265)), none⟩, ⟨(some 267), (.mov (.t 266)), none⟩, ⟨(some 268), (.mov (.t 29)), (some (267, false))⟩, ⟨(some 269), (.bin .neq (.t 268) (.c (.int .i64 0))), (some (267, false))⟩, ⟨(some 270), (.pick (.t 267) (.c (.bool true)) (.t 269)), none⟩, ⟨(some 271), (.mov (.t 270)), none⟩, ⟨(some 272), (.mov (.t 1)), (some (271, false))⟩, ⟨(some 273), (.mov (.t 7)), (some (271, false))⟩, ⟨(some 274), (.call 17 [(.t 272), (.t 273)]), (some (271, false))⟩, ⟨(some 275), (.not (.t 274)), (some (271, false))⟩, ⟨(some 276), (.pick (.t 271) (.c (.bool true)) (.t 275)), none⟩, ⟨(some 277), (.mov (.t 276)), none⟩, ⟨(some 278), (.mov (.t 7)), (some (277, false))⟩, ⟨(some 279), (.mov (.t 19)), (some (277, false))⟩, ⟨(some 280), (.call 17 [(.t 278), (.t 279)]), (some (277, false))⟩, ⟨(some 281), (.pick (.t 277) (.c (.bool true)) (.t 280)), none⟩]) (.cond (.t 281) (.seq (.ops [⟨(some 6), (.mov (.c (.bool false))), none⟩]) .ret) .skip))) .skip)) (.seq (.seq (.ops [⟨(some 282), (.mov (.t 24)), none⟩, ⟨(some 283), (.mov (.t 282)), none⟩, ⟨(some 284), (.mov (.t 12)), (some (283, true))⟩, ⟨(some 285), (.pick (.t 283) (.t 284) (.c (.bool false))), none⟩, ⟨(some 286), (.mov (.t 285)), none⟩, ⟨(some 287), (.mov (.t 23)), (some (286, true))⟩, ⟨(some 288), (.bin .leq (.t 287) (.c (.int .i64 60))), (some (286, true))⟩, ⟨(some 289), (.pick (.t 286) (.t 288) (.c (.bool false))), none⟩]) (.cond (.t 289) (.seq (.ops [⟨(some 290), (.mov (.t 19)), none⟩, ⟨(some 31), (.mov (.t 290)), none⟩, ⟨(some 32), (.mov (.c (.int .i64 0))), none⟩]) (.seq (.ops [⟨(some 291), (.mov (.t 20)), none⟩, ⟨(some 33), (.mov (.t 291)), none⟩]) (.seq (.block 0 (.loop (.seq (.seq (.ops [⟨(some 292), (.mov (.t 33)), none⟩, ⟨(some 293), (.mov (.t 292)), none⟩, ⟨(some 294), (.mov (.t 32)), (some (293, true))⟩, ⟨(some 295), (.mov (.t 23)), (some (293, true))⟩, ⟨(some 296), (.bin .leq (.t 294) (.t 295)), (some (293, true))⟩, ⟨(some 297), (.pick (.t 293) (.t 296) (.c (.bool false))), none⟩]) (.cond (.t 297) .skip (.exit 0))) (.block 1 (.seq (.ops [⟨(some 298), (.mov (.t 32)), none⟩, ⟨(some 299), (.bin .add (.t 298) (.c (.int .i64 1))), none⟩, ⟨(some 32), (.mov (.t 299)), none⟩]) (.seq (.ops [⟨(some 301), (.mov (.t 0)), none⟩, ⟨(some 302), (.mov (.t 31)), none⟩, ⟨(some 303), (.call 4 [(.t 301), (.t 302)]), none⟩, ⟨(some 300), (.mov (.t 303)), none⟩, ⟨(some 304), (.ext (.t 300) 0), none⟩, ⟨(some 305), (.ext (.t 300) 1), none⟩, ⟨(some 34), (.mov (.t 304)), none⟩, ⟨(some 35), (.mov (.t 305)), none⟩]) (.seq (.ops [⟨(some 306), (.mov (.t 34)), none⟩, ⟨(some 31), (.mov (.t 306)), none⟩]) (.ops [⟨(some 307), (.mov (.t 35)), none⟩, ⟨(some 33), (.mov (.t 307)), none⟩])))))))) (.seq (.ops [⟨(some 308), (.mov (.t 32)), none⟩, ⟨(some 309), (.mov (.t 23)), none⟩, ⟨(some 310), (.bin .neq (.t 308) (.t 309)), none⟩]) (.cond (.t 310) (.seq (.ops [⟨(some 6), (.mov (.c (.bool false))), none⟩]) .ret) .skip))))) .skip)) (.seq (.ops [⟨(some 312), (.mov (.t 2)), none⟩, ⟨(some 313), (.call 18 [(.t 312)]), none⟩, ⟨(some 311), (.mov (.t 313)), none⟩, ⟨(some 314), (.ext (.t 311) 0), none⟩, ⟨(some 315), (.ext (.t 311) 1), none⟩, ⟨(some 36), (.mov (.t 314)), none⟩, ⟨(some 37), (.mov (.t 315)), none⟩]) (.seq (.ops [⟨(some 317), (.mov (.t 2)), none⟩, ⟨(some 318), (.call 19 [(.t 317)]), none⟩, ⟨(some 316), (.mov (.t 318)), none⟩, ⟨(some 319), (.ext (.t 316) 0), none⟩, ⟨(some 320), (.ext (.t 316) 1), none⟩, ⟨(some 38), (.mov (.t 319)), none⟩, ⟨(some 39), (.mov (.t 320)), none⟩]) (.seq (.ops [⟨(some 322), (.mov (.t 2)), none⟩, ⟨(some 323), (.call 20 [(.t 322)]), none⟩, ⟨(some 321), (.mov (.t 323)), none⟩, ⟨(some 324), (.ext (.t 321) 0), none⟩, ⟨(some 325), (.ext (.t 321) 1), none⟩, ⟨(some 40), (.mov (.t 324)), none⟩, ⟨(some 41), (.mov (.t 325)), none⟩]) (.seq (.ops [⟨(some 327), (.mov (.t 2)), none⟩, ⟨(some 328), (.call 21 [(.t 327)]), none⟩, ⟨(some 326), (.mov (.t 328)), none⟩, ⟨(some 329), (.ext (.t 326) 0), none⟩, ⟨(some 330), (.ext (.t 326) 1), none⟩, ⟨(some 42), (.mov (.t 329)), none⟩, ⟨(some 43), (.mov (.t 330)), none⟩]) (.seq (.ops [⟨(some 332), (.mov (.t 2)), none⟩, ⟨(some 333), (.call 22 [(.t 332)]), none⟩, ⟨(some 331), (.mov (.t 333)), none⟩, ⟨(some 334), (.ext (.t 331) 0), none⟩, ⟨(some 335), (.ext (.t 331) 1), none⟩, ⟨(some 44), (.mov (.t 334)), none⟩, ⟨(some 45), (.mov (.t 335)), none⟩]) (.seq (.ops [⟨(some 337), (.mov (.t 2)), none⟩, ⟨(some 338), (.call 23 [(.t 337)]), none⟩, ⟨(some 336), (.mov (.t 338)), none⟩, ⟨(some 339), (.ext (.t 336) 0), none⟩, ⟨(some 340), (.ext (.t 336) 1), none⟩, ⟨(some 46), (.mov (.t 339)), none⟩, ⟨(some 47), (.mov (.t 340)), none⟩]) (.seq (.ops [⟨(some 342), (.mov (.t 2)), none⟩, ⟨(some 343), (.call 24 [(.t 342)]), none⟩, ⟨(some 341), (.mov (.t 343)), none⟩, ⟨(some 344), (.ext (.t 341) 0), none⟩, ⟨(some 345), (.ext (.t 341) 1), none⟩, ⟨(some 346), (.ext (.t 341) 2), none⟩, ⟨(some 48), (.mov (.t 344)), none⟩, ⟨(some 49), (.mov (.t 345)), none⟩, ⟨(some 50), (.mov (.t 346)), none⟩]) (.seq (.ops [⟨(some 348), (.mov (.t 2)), none⟩, ⟨(some 349), (.call 25 [(.t 348)]), none⟩, ⟨(some 347), (.mov (.t 349)), none⟩, ⟨(some 350), (.ext (.t 347) 0), none⟩, ⟨(some 351), (.ext (.t 347) 1), none⟩, ⟨(some 352), (.ext (.t 347) 2), none⟩, ⟨(some 51), (.mov (.t 350)), none⟩, ⟨(some 52), (.mov (.t 351)), none⟩, ⟨(some 53), (.mov (.t 352)), none⟩]) (.seq (.ops [⟨(some 354), (.mov (.t 2)), none⟩, ⟨(some 355), (.call 26 [(.t 354)]), none⟩, ⟨(some 353), (.mov (.t 355)), none⟩, ⟨(some 356), (.ext (.t 353) 0), none⟩, ⟨(some 357), (.ext (.t 353) 1), none⟩, ⟨(some 54), (.mov (.t 356)), none⟩, ⟨(some 55), (.mov (.t 357)), none⟩]) (.seq (.ops [⟨(some 359), (.mov (.t 2)), none⟩, ⟨(some 360), (.call 27 [(.t 359)]), none⟩, ⟨(some 358), (.mov (.t 360)), none⟩, ⟨(some 361), (.ext (.t 358) 0), none⟩, ⟨(some 362), (.ext (.t 358) 1), none⟩, ⟨(some 56), (.mov (.t 361)), none⟩, ⟨(some 57), (.mov (.t 362)), none⟩]) (.seq (.seq (.ops [⟨(some 363), (.mov (.t 37)), none⟩, ⟨(some 364), (.mov (.t 39)), none⟩, ⟨(some 365), (.beq true (.t 363) (.t 364)), none⟩, ⟨(some 366), (.mov (.t 365)), none⟩, ⟨(some 367), (.mov (.t 36)), (some (366, false))⟩, ⟨(some 368), (.mov (.t 38)), (some (366, false))⟩, ⟨(some 369), (.call 14 [(.t 367), (.t 368)]), (some (366, false))⟩, ⟨(some 370), (.not (.t 369)), (some (366, false))⟩, ⟨(some 371), (.pick (.t 366) (.c (.bool true)) (.t 370)), none⟩, ⟨(some 372), (.mov (.t 371)), none⟩, ⟨(some 373), (.mov (.t 41)), (some (372, false))⟩, ⟨(some 374), (.mov (.t 43)), (some (372, false))⟩, ⟨(some 375), (.beq true (.t 373) (.t 374)), (some (372, false))⟩, ⟨(some 376), (.pick (.t 372) (.c (.bool true)) (.t 375)), none⟩, ⟨(some 377), (.mov (.t 376)), none⟩, ⟨(some 378), (.mov (.t 40)), (some (377, false))⟩, ⟨(some 379), (.mov (.t 42)), (some (377, false))⟩, ⟨(some 380), (.call 14 [(.t 378), (.t 379)]), (some (377, false))⟩, ⟨(some 381), (.not (.t 380)), (some (377, false))⟩, ⟨(some 382), (.pick (.t 377) (.c (.bool true)) (.t 381)), none⟩, ⟨(some 383), (.mov (.t 382)), none⟩, ⟨(some 384), (.mov (.t 45)), (some (383, false))⟩, ⟨(some 385), (.mov (.t 47)), (some (383, false))⟩, ⟨(some 386), (.beq true (.t 384) (.t 385)), (some (383, false))⟩, ⟨(some 387), (.pick (.t 383) (.c (.bool true)) (.t 386)), none⟩, ⟨(some 388), (.mov (.t 387)), none⟩, ⟨(some 389), (.mov (.t 44)), (some (388, false))⟩, ⟨(some 390), (.mov (.t 46)), (some (388, false))⟩, ⟨(some 391), (.bin .neq (.t 389) (.t 390)), (some (388, false))⟩, ⟨(some 392), (.pick (.t 388) (.c (.bool true)) (.t 391)), none⟩, ⟨(some 393), (.mov (.t 392)), none⟩, ⟨(some 394), (.mov (.t 50)), (some (393, false))⟩, ⟨(some 395), (.mov (.t 53)), (some (393, false))⟩, ⟨(some 396), (.beq true (.t 394) (.t 395)), (some (393, false))⟩, ⟨(some 397), (.pick (.t 393) (.c (.bool true)) (.t 396)), none⟩, ⟨(some 398), (.mov (.t 397)), none⟩, ⟨(some 399), (.mov (.t 48)), (some (398, false))⟩, ⟨(some 400), (.mov (.t 51)), (some (398, false))⟩, ⟨(some 401), (.call 14 [(.t 399), (.t 400)]), (some (398, false))⟩, ⟨(some 402), (.not (.t 401)), (some (398, false))⟩, ⟨(some 403), (.pick (.t 398) (.c (.bool true)) (.t 402)), none⟩, ⟨(some 404), (.mov (.t 403)), none⟩, ⟨(some 405), (.mov (.t 49)), (some (404, false))⟩, ⟨(some 406), (.mov (.t 52)), (some (404, false))⟩, ⟨(some 407), (.call 14 [(.t 405), (.t 406)]), (some (404, false))⟩, ⟨(some 408), (.not (.t 407)), (some (404, false))⟩, ⟨(some 409), (.pick (.t 404) (.c (.bool true)) (.t 408)), none⟩, ⟨(some 410), (.mov (.t 409)), none⟩, ⟨(some 411), (.mov (.t 55)), (some (410, false))⟩, ⟨(some 412), (.mov (.t 57)), (some (410, false))⟩, ⟨(some 413), (.beq true (.t 411) (.t 412)), (some (410, false))⟩, ⟨(some 414), (.pick (.t 410) (.c (.bool true)) (.t 413)), none⟩, ⟨(some 415), (.mov (.t 414)), none⟩, ⟨(some 416), (.mov (.t 54)), (some (415, false))⟩, ⟨(some 417), (.mov (.t 56)), (some (415, false))⟩, ⟨(some 418), (.call 28 [(.t 416), (.t 417)]), (some (415, false))⟩, ⟨(some 419), (.not (.t 418)), (some (415, false))⟩, ⟨(some 420), (.pick (.t 415) (.c (.bool true)) (.t 419)), none⟩, ⟨(some 421), (.mov (.t 420)), none⟩, ⟨(some 422), (.mov (.t 37)), (some (421, false))⟩, ⟨(some 423), (.mov (.t 2)), (some (421, false))⟩, ⟨(some 424), (.call 15 [(.t 423)]), (some (421, false))⟩, ⟨(some 425), (.beq true (.t 422) (.t 424)), (some (421, false))⟩, ⟨(some 426), (.pick (.t 421) (.c (.bool true)) (.t 425)), none⟩, ⟨(some 427), (.mov (.t 426)), none⟩, ⟨(some 428), (.mov (.t 41)), (some (427, false))⟩, ⟨(some 429), (.mov (.t 37)), (some (427, false))⟩, ⟨(some 430), (.beq true (.t 428) (.t 429)), (some (427, false))⟩, ⟨(some 431), (.pick (.t 427) (.c (.bool true)) (.t 430)), none⟩, ⟨(some 432), (.mov (.t 431)), none⟩, ⟨(some 433), (.mov (.t 45)), (some (432, false))⟩, ⟨(some 434), (.mov (.t 37)), (some (432, false))⟩, ⟨(some 435), (.beq true (.t 433) (.t 434)), (some (432, false))⟩, ⟨(some 436), (.pick (.t 432) (.c (.bool true)) (.t 435)), none⟩, ⟨(some 437), (.mov (.t 436)), none⟩, ⟨(some 438), (.mov (.t 50)), (some (437, false))⟩, ⟨(some 439), (.mov (.t 37)), (some (437, false))⟩, ⟨(some 440), (.beq true (.t 438) (.t 439)), (some (437, false))⟩, ⟨(some 441), (.pick (.t 437) (.c (.bool true)) (.t 440)), none⟩, ⟨(some 442), (.mov (.t 441)), none⟩, ⟨(some 443), (.mov (.t 55)), (some (442, false))⟩, ⟨(some 444), (.mov (.t 37)), (some (442, false))⟩, ⟨(some 445), (.beq true (.t 443) (.t 444)), (some (442, false))⟩, ⟨(some 446), (.pick (.t 442) (.c (.bool true)) (.t 445)), none⟩]) (.cond (.t 446) (.seq (.ops [⟨(some 6), (.mov (.c (.bool false))), none⟩]) .ret) .skip)) (.seq (.seq (.ops [⟨(some 447), (.mov (.t 37)), none⟩]) (.cond (.t 447) (.seq (.ops [⟨(some 449), (.mov (.t 2)), none⟩, ⟨(some 450), (.call 29 [(.t 449)]), none⟩, ⟨(some 448), (.mov (.t 450)), none⟩, ⟨(some 451), (.ext (.t 448) 0), none⟩, ⟨(some 452), (.ext (.t 448) 1), none⟩, ⟨(some 58), (.mov (.t 451)), none⟩, ⟨(some 59), (.mov (.t 452)), none⟩]) (.seq (.ops [⟨(some 60), (.mov (.c (.int .i64 0))), none⟩]) (.seq (.seq (.ops [⟨(some 453), (.mov (.t 36)), none⟩, ⟨(some 454), (.len (.t 453)), none⟩, ⟨(some 455), (.mov (.c (.int .i64 0))), none⟩]) (.block 2 (.loop (.seq (.ops [⟨(some 456), (.bin .lss (.t 455) (.t 454)), none⟩]) (.seq (.cond (.t 456) .skip (.exit 2)) (.seq (.block 3 (.seq (.ops [⟨(some 457), (.mov (.t 455)), none⟩, ⟨(some 458), (.idx 1 (.t 453) (.t 455)), none⟩, ⟨(some 459), (.ld none (.t 458)), none⟩, ⟨(some 61), (.mov (.t 457)), none⟩, ⟨(some 62), (.mov (.t 459)), none⟩]) (.ops [⟨(some 460), (.mov (.t 60)), none⟩, ⟨(some 461), (.mov (.t 61)), none⟩, ⟨(some 462), (.mov (.t 62)), none⟩, ⟨(some 463), (.bin .mul (.t 461) (.t 462)), none⟩, ⟨(some 464), (.bin .add (.t 460) (.t 463)), none⟩, ⟨(some 60), (.mov (.t 464)), none⟩]))) (.ops [⟨(some 465), (.bin .add (.t 455) (.c (.int .i64 1))), none⟩, ⟨(some 455), (.mov (.t 465)), none⟩]))))))) (.seq (.seq (.tree (.take ⟨(some 466), (.mov (.t 59)), none⟩ (.take ⟨(some 467), (.not (.t 466)), none⟩ (.take ⟨(some 468), (.mov (.t 467)), none⟩ (.take ⟨(some 469), (.mov (.t 36)), (some (468, false))⟩ (.take ⟨(some 470), (.len (.t 469)), (some (468, false))⟩ (.take ⟨(some 471), (.mov (.t 58)), (some (468, false))⟩ (.take ⟨(some 472), (.bin .add (.t 471) (.c (.int .i64 1))), (some (468, false))⟩ (.take ⟨(some 473), (.bin .neq (.t 470) (.t 472)), (some (468, false))⟩ (.take ⟨(some 474), (.pick (.t 468) (.c (.bool true)) (.t 473)), none⟩ (.take ⟨(some 475), (.mov (.t 474)), none⟩ (.take ⟨(some 476), (.mov (.t 40)), (some (475, false))⟩ (.take ⟨(some 477), (.len (.t 476)), (some (475, false))⟩ (.take ⟨(some 478), (.mov (.t 58)), (some (475, false))⟩ (.take ⟨(some 479), (.bin .add (.t 478) (.c (.int .i64 1))), (some (475, false))⟩ (.take ⟨(some 480), (.bin .neq (.t 477) (.t 479)), (some (475, false))⟩ (.take ⟨(some 481), (.pick (.t 475) (.c (.bool true)) (.t 480)), none⟩ (.take ⟨(some 482), (.mov (.t 481)), none⟩ (.take ⟨(some 483), (.mov (.t 36)), (some (482, false))⟩ (.take ⟨(some 484), (.call 30 [(.t 483)]), (some (482, false))⟩ (.take ⟨(some 485), (.mov (.t 58)), (some (482, false))⟩ (.take ⟨(some 486), (.call 31 [(.t 485)]), (some (482, false))⟩ (.take ⟨(some 487), (.bin .neq (.t 484) (.t 486)), (some (482, false))⟩ (.take ⟨(some 488), (.pick (.t 482) (.c (.bool true)) (.t 487)), none⟩ (.take ⟨(some 489), (.mov (.t 488)), none⟩ (.take ⟨(some 490), (.mov (.t 60)), (some (489, false))⟩ (.take ⟨(some 491), (.mov (.t 54)), (some (489, false))⟩ (.take ⟨(some 492), (.len (.t 491)), (some (489, false))⟩ (.take ⟨(some 493), (.mov (.t 58)), (some (489, false))⟩ (.take ⟨(some 494), (.bin .sub (.t 493) (.c (.int .i64 1))), (some (489, false))⟩ (.take ⟨(some 495), (.call 31 [(.t 494)]), (some (489, false))⟩ (.take ⟨(some 496), (.bin .mul (.t 492) (.t 495)), (some (489, false))⟩ (.take ⟨(some 497), (.bin .neq (.t 490) (.t 496)), (some (489, false))⟩ (.take ⟨(some 498), (.pick (.t 489) (.c (.bool true)) (.t 497)), none⟩ (.take ⟨(some 499), (.mov (.t 498)), none⟩ (.take ⟨(some 500), (.mov (.t 40)), (some (499, false))⟩ (.take ⟨(some 501), (.idx 1 (.t 500) (.c (.int .i64 0))), (some (499, false))⟩ (.take ⟨(some 502), (.ld none (.t 501)), (some (499, false))⟩ (.take ⟨(some 503), (.bin .neq (.t 502) (.c (.int .i64 1))), (some (499, false))⟩ (.take ⟨(some 504), (.pick (.t 499) (.c (.bool true)) (.t 503)), none⟩ (.take ⟨(some 505), (.mov (.t 504)), none⟩ (.take ⟨(some 506), (.mov (.t 40)), (some (505, false))⟩ (.take ⟨(some 507), (.idx 1 (.t 506) (.c (.int .i64 1))), (some (505, false))⟩ (.take ⟨(some 508), (.ld none (.t 507)), (some (505, false))⟩ (.take ⟨(some 509), (.mov (.t 54)), (some (505, false))⟩ (.take ⟨(some 510), (.len (.t 509)), (some (505, false))⟩ (.take ⟨(some 511), (.bin .neq (.t 508) (.t 510)), (some (505, false))⟩ (.take ⟨(some 512), (.pick (.t 505) (.c (.bool true)) (.t 511)), none⟩ (.take ⟨(some 513), (.mov (.t 512)), none⟩ (.take ⟨(some 514), (.mov (.t 36)), (some (513, false))⟩ (.take ⟨(some 515), (.mov (.t 58)), (some (513, false))⟩ (.take ⟨(some 516), (.idx 1 (.t 514) (.t 515)), (some (513, false))⟩ (.take ⟨(some 517), (.ld none (.t 516)), (some (513, false))⟩ (.take ⟨(some 518), (.mov (.t 40)), (some (513, false))⟩ (.take ⟨(some 519), (.mov (.t 58)), (some (513, false))⟩ (.take ⟨(some 520), (.idx 1 (.t 518) (.t 519)), (some (513, false))⟩ (.take ⟨(some 521), (.ld none (.t 520)), (some (513, false))⟩ (.take ⟨(some 522), (.bin .neq (.t 517) (.t 521)), (some (513, false))⟩ (.take ⟨(some 523), (.pick (.t 513) (.c (.bool true)) (.t 522)), none⟩ (.take ⟨(some 524), (.mov (.t 523)), none⟩ (.take ⟨(some 525), (.mov (.t 40)), (some (524, false))⟩ (.take ⟨(some 526), (.mov (.t 44)), (some (524, false))⟩ (.take ⟨(some 527), (.idx 1 (.t 525) (.t 526)), (some (524, false))⟩ (.take ⟨(some 528), (.ld none (.t 527)), (some (524, false))⟩ (.take ⟨(some 529), (.bin .lss (.t 528) (.c (.int .i64 1))), (some (524, false))⟩ (.take ⟨(some 530), (.pick (.t 524) (.c (.bool true)) (.t 529)), none⟩ (.take ⟨(some 531), (.mov (.t 530)), none⟩ (.take ⟨(some 532), (.mov (.t 44)), (some (531, false))⟩ (.take ⟨(some 533), (.mov (.t 58)), (some (531, false))⟩ (.take ⟨(some 534), (.bin .lss (.t 532) (.t 533)), (some (531, false))⟩ (.take ⟨(some 535), (.mov (.t 534)), (some (531, false))⟩ (.take ⟨(some 536), (.mov (.t 40)), (some (535, true))⟩ (.take ⟨(some 537), (.mov (.t 44)), (some (535, true))⟩ (.take ⟨(some 538), (.bin .add (.t 537) (.c (.int .i64 1))), (some (535, true))⟩ (.take ⟨(some 539), (.idx 1 (.t 536) (.t 538)), (some (535, true))⟩ (.take ⟨(some 540), (.ld none (.t 539)), (some (535, true))⟩ (.take ⟨(some 541), (.bin .neq (.t 540) (.c (.int .i64 0))), (some (535, true))⟩ (.take ⟨(some 542), (.pick (.t 535) (.t 541) (.c (.bool false))), (some (531, false))⟩ (.take ⟨(some 543), (.pick (.t 531) (.c (.bool true)) (.t 542)), none⟩ (.take ⟨(some 544), (.mov (.t 543)), none⟩ (.take ⟨(some 545), (.mov (.t 48)), (some (544, false))⟩ (.take ⟨(some 546), (.len (.t 545)), (some (544, false))⟩ (.take ⟨(some 547), (.mov (.t 49)), (some (544, false))⟩ (.take ⟨(some 548), (.len (.t 547)), (some (544, false))⟩ (.take ⟨(some 549), (.bin .add (.t 546) (.t 548)), (some (544, false))⟩ (.take ⟨(some 550), (.mov (.t 44)), (some (544, false))⟩ (.take ⟨(some 551), (.bin .neq (.t 549) (.t 550)), (some (544, false))⟩ (.take ⟨(some 552), (.pick (.t 544) (.c (.bool true)) (.t 551)), none⟩ (.take ⟨(some 553), (.mov (.t 552)), none⟩ (.take ⟨(some 554), (.mov (.t 48)), (some (553, false))⟩ (.take ⟨(some 555), (.call 32 [(.t 554)]), (some (553, false))⟩ (.take ⟨(some 556), (.not (.t 555)), (some (553, false))⟩ (.take ⟨(some 557), (.pick (.t 553) (.c (.bool true)) (.t 556)), none⟩ (.take ⟨(some 558), (.mov (.t 557)), none⟩ (.take ⟨(some 559), (.mov (.t 49)), (some (558, false))⟩ (.take ⟨(some 560), (.call 32 [(.t 559)]), (some (558, false))⟩ (.take ⟨(some 561), (.not (.t 560)), (some (558, false))⟩ (.take ⟨(some 562), (.pick (.t 558) (.c (.bool true)) (.t 561)), none⟩ .done)))))))))))))))))))))))))))))))))))))))))))))))))))))))))))))))))))))))))))))))))))))))))))))))))) (.cond (.t 562) (.seq (.ops [⟨(some 6), (.mov (.c (.bool false))), none⟩]) .ret) .skip)) (.seq (.ops [⟨(some 563), (.mov (.t 54)), none⟩, ⟨(some 564), (.len (.t 563)), none⟩, ⟨(some 565), (.mov (.c (.int .i64 0))), none⟩]) (.block 4 (.loop (.seq (.ops [⟨(some 566), (.bin .lss (.t 565) (.t 564)), none⟩]) (.seq (.cond (.t 566) .skip (.exit 4)) (.seq (.block 5 (.seq (.ops [⟨(some 567), (.idx 1 (.t 563) (.t 565)), none⟩, ⟨(some 568), (.ld none (.t 567)), none⟩, ⟨(some 64), (.mov (.t 568)), none⟩]) (.seq (.ops [⟨(some 569), (.mov (.t 48)), none⟩, ⟨(some 570), (.mov (.t 64)), none⟩, ⟨(some 571), (.idx 1 (.t 570) (.c (.int .i64 0))), none⟩, ⟨(some 572), (.ld none (.t 571)), none⟩, ⟨(some 573), (.call 33 [(.t 569), (.t 572)]), none⟩, ⟨(some 574), (.not (.t 573)), none⟩, ⟨(some 575), (.mov (.t 574)), none⟩, ⟨(some 576), (.mov (.t 49)), (some (575, true))⟩, ⟨(some 577), (.mov (.t 64)), (some (575, true))⟩, ⟨(some 578), (.idx 1 (.t 577) (.c (.int .i64 1))), (some (575, true))⟩, ⟨(some 579), (.ld none (.t 578)), (some (575, true))⟩, ⟨(some 580), (.call 33 [(.t 576), (.t 579)]), (some (575, true))⟩, ⟨(some 581), (.not (.t 580)), (some (575, true))⟩, ⟨(some 582), (.pick (.t 575) (.t 581) (.c (.bool false))), none⟩]) (.cond (.t 582) (.seq (.ops [⟨(some 6), (.mov (.c (.bool false))), none⟩]) .ret) .skip)))) (.ops [⟨(some 583), (.bin .add (.t 565) (.c (.int .i64 1))), none⟩, ⟨(some 565), (.mov (.t 583)), none⟩]))))))))))) .skip)) (.seq (.ops [⟨(some 6), (.mov (.c (.bool true))), none⟩]) .ret)))))))))))))))))))))))))))))
theorem cc3 : ccode Tryd.prog (min Tryd.f3.ntmps pbase) (Tryd.f3.body.getD .skip) = some ac3 := by kernel_rfl
def ac4 : ACode := (.seq (.ops [⟨(some 4), (.nils 1), none⟩, ⟨(some 5), (.mov (.c (.bool false))), none⟩]) (.seq (.ops [⟨(some 9), (.mov (.t 0)), none⟩, ⟨(some 10), (.mov (.t 1)), none⟩, ⟨(some 11), (.call 34 [(.t 9), (.t 10)]), none⟩, ⟨(some 8), (.mov (.t 11)), none⟩, ⟨(some 12), (.ext (.t 8) 0), none⟩, ⟨(some 13), (.ext (.t 8) 1), none⟩, ⟨(some 6), (.alloc [(.int .i64 0), (.map none)]), none⟩, ⟨none, (.st 2 (.t 6) (.t 12)), none⟩, ⟨(some 7), (.mov (.t 13)), none⟩]) (.seq (.seq (.ops [⟨(some 14), (.mov (.t 7)), none⟩, ⟨(some 15), (.not (.t 14)), none⟩]) (.cond (.t 15) (.seq (.ops [⟨(some 4), (.nils 1), none⟩, ⟨(some 5), (.mov (.c (.bool false))), none⟩]) .ret) .skip)) (.seq (.ops [⟨(some 16), (.mov (.t 1)), none⟩, ⟨(some 17), (.ld (some 2) (.t 6)), none⟩, ⟨(some 18), (.mkf 36 1 [(.t 17)]), none⟩, ⟨(some 19), (.call 35 [(.t 16), (.t 18)]), none⟩, ⟨(some 20), (.ext (.t 19) 0), none⟩, ⟨(some 21), (.ext (.t 19) 1), none⟩, ⟨(some 4), (.mov (.t 20)), none⟩, ⟨(some 5), (.mov (.t 21)), none⟩]) .ret))))
theorem cc4 : ccode Tryd.prog (min Tryd.f4.ntmps pbase) (Tryd.f4.body.getD .skip) = some ac4 := by kernel_rfl
def ac5 : ACode := (.seq (.ops [⟨(some 4), (.nils 1), none⟩, ⟨(some 5), (.mov (.c (.bool false))), none⟩]) (.seq (.seq (.ops [⟨(some 7), (.mov (.t 0)), none⟩, ⟨(some 8), (.mov (.t 1)), none⟩, ⟨(some 9), (.call 37 [(.t 7), (.t 8)]), none⟩, ⟨(some 10), (.not (.t 9)), none⟩]) (.cond (.t 10) (.seq (.ops [⟨(some 4), (.nils 1), none⟩, ⟨(some 5), (.mov (.c (.bool false))), none⟩]) .ret) .skip)) (.seq (.ops [⟨(some 11), (.mov (.t 0)), none⟩, ⟨(some 12), (.mov (.t 1)), none⟩, ⟨(some 13), (.call 38 [(.t 11), (.c (.slice none 0 0)), (.t 12)]), none⟩, ⟨(some 6), (.mov (.t 13)), none⟩]) (.seq (.ops [⟨(some 14), (.mov (.t 6)), none⟩, ⟨(some 15), (.mov (.t 6)), none⟩, ⟨(some 16), (.len (.t 15)), none⟩, ⟨(some 17), (.bin .gtr (.t 16) (.c (.int .i64 0))), none⟩, ⟨(some 4), (.mov (.t 14)), none⟩, ⟨(some 5), (.mov (.t 17)), none⟩]) .ret))))
theorem cc5 : ccode Tryd.prog (min Tryd.f5.ntmps pbase) (Tryd.f5.body.getD .skip) = some ac5 := by kernel_rfl
def ac6 : ACode := (.seq (.ops [⟨(some 4), (.mov (.c (.bool false))), none⟩, ⟨(some 5), (.mov (.c (.bool false))), none⟩]) (.seq (.ops [⟨(some 9), (.mov (.t 0)), none⟩, ⟨(some 10), (.mov (.t 1)), none⟩, ⟨(some 11), (.call 8 [(.t 9), (.t 10)]), none⟩, ⟨(some 8), (.mov (.t 11)), none⟩, ⟨(some 12), (.ext (.t 8) 0), none⟩, ⟨(some 13), (.ext (.t 8) 1), none⟩, ⟨(some 6), (.mov (.t 12)), none⟩, ⟨(some 7), (.mov (.t 13)), none⟩]) (.seq (.ops [⟨(some 14), (.mov (.t 7)), none⟩, ⟨(some 15), (.mov (.t 14)), none⟩, ⟨(some 16), (.mov (.t 6)), (some (15, true))⟩, ⟨(some 17), (.bin .eql (.t 16) (.c (.int .i64 0))), (some (15, true))⟩, ⟨(some 18), (.pick (.t 15) (.t 17) (.c (.bool false))), none⟩, ⟨(some 19), (.mov (.t 7)), none⟩, ⟨(some 4), (.mov (.t 18)), none⟩, ⟨(some 5), (.mov (.t 19)), none⟩]) .ret)))
theorem cc6 : ccode Tryd.prog (min Tryd.f6.ntmps pbase) (Tryd.f6.body.getD .skip) = some ac6 := by kernel_rfl
def ac7 : ACode := (.seq (.ops [⟨(some 4), (.mov (.c (.bool false))), none⟩, ⟨(some 5), (.mov (.c (.bool false))), none⟩]) (.seq (.seq (.ops [⟨(some 6), (.mov (.t 0)), none⟩, ⟨(some 7), (.mov (.t 1)), none⟩, ⟨(some 8), (.call 37 [(.t 6), (.t 7)]), none⟩, ⟨(some 9), (.not (.t 8)), none⟩]) (.cond (.t 9) (.seq (.ops [⟨(some 4), (.mov (.c (.bool false))), none⟩, ⟨(some 5), (.mov (.c (.bool false))), none⟩]) .ret) .skip)) (.seq (.ops [⟨(some 10), (.mov (.t 0)), none⟩, ⟨(some 11), (.mov (.t 1)), none⟩, ⟨(some 12), (.call 39 [(.t 10), (.t 11)]), none⟩, ⟨(some 13), (.bin .eql (.t 12) (.c (.int .i64 0))), none⟩, ⟨(some 4), (.mov (.t 13)), none⟩, ⟨(some 5), (.mov (.c (.bool true))), none⟩]) .ret)))
theorem cc7 : ccode Tryd.prog (min Tryd.f7.ntmps pbase) (Tryd.f7.body.getD .skip) = some ac7 := by kernel_rfl
def ac8 : ACode := (.seq (.ops [⟨(some 4), (.mov (.c (.int .i64 0))), none⟩, ⟨(some 5), (.mov (.c (.bool false))), none⟩]) (.seq (.ops [⟨(some 12), (.mov (.t 0)), none⟩, ⟨(some 13), (.mov (.t 1)), none⟩, ⟨(some 14), (.call 34 [(.t 12), (.t 13)]), none⟩, ⟨(some 11), (.mov (.t 14)), none⟩, ⟨(some 15), (.ext (.t 11) 0), none⟩, ⟨(some 16), (.ext (.t 11) 1), none⟩, ⟨(some 6), (.alloc [(.int .i64 0), (.map none)]), none⟩, ⟨none, (.st 2 (.t 6) (.t 15)), none⟩, ⟨(some 7), (.mov (.t 16)), none⟩]) (.seq (.seq (.ops [⟨(some 17), (.mov (.t 7)), none⟩, ⟨(some 18), (.not (.t 17)), none⟩]) (.cond (.t 18) (.seq (.ops [⟨(some 4), (.mov (.c (.int .i64 0))), none⟩, ⟨(some 5), (.mov (.c (.bool false))), none⟩]) .ret) .skip)) (.seq (.ops [⟨(some 8), (.mov (.c (.int .i64 0))), none⟩]) (.seq (.seq (.ops [⟨(some 19), (.mov (.t 1)), none⟩, ⟨(some 20), (.len (.t 19)), none⟩, ⟨(some 21), (.mov (.c (.int .i64 0))), none⟩]) (.block 0 (.loop (.seq (.ops [⟨(some 22), (.bin .lss (.t 21) (.t 20)), none⟩]) (.seq (.cond (.t 22) .skip (.exit 0)) (.seq (.block 1 (.seq (.ops [⟨(some 23), (.mov (.t 21)), none⟩, ⟨(some 24), (.idx 1 (.t 19) (.t 21)), none⟩, ⟨(some 25), (.ld none (.t 24)), none⟩, ⟨(some 9), (.mov (.t 23)), none⟩, ⟨(some 10), (.mov (.t 25)), none⟩]) (.seq (.ops [⟨(some 26), (.fa 1 (.t 6)), none⟩, ⟨(some 27), (.ld none (.t 26)), none⟩, ⟨(some 28), (.mov (.t 9)), none⟩, ⟨(some 29), (.mov (.t 10)), none⟩, ⟨(some 30), (.pu (.bld [(.int .i64 0), (.int .i64 0)] [(0, 1), (1, 1)]) [(.t 28), (.t 29)]), none⟩, ⟨(some 31), (.mgetk 54 (.bool false) false (.t 27) (.t 30)), none⟩]) (.cond (.t 31) (.ops [⟨(some 32), (.mov (.t 8)), none⟩, ⟨(some 33), (.bin .add (.t 32) (.c (.int .i64 1))), none⟩, ⟨(some 8), (.mov (.t 33)), none⟩]) .skip)))) (.ops [⟨(some 34), (.bin .add (.t 21) (.c (.int .i64 1))), none⟩, ⟨(some 21), (.mov (.t 34)), none⟩]))))))) (.seq (.ops [⟨(some 35), (.mov (.t 8)), none⟩, ⟨(some 4), (.mov (.t 35)), none⟩, ⟨(some 5), (.mov (.c (.bool true))), none⟩]) .ret))))))
theorem cc8 : ccode Tryd.prog (min Tryd.f8.ntmps pbase) (Tryd.f8.body.getD .skip) = some ac8 := by kernel_rfl
def ac9 : ACode := (.seq (.ops [⟨(some 4), (.mov (.c (.int .i64 0))), none⟩, ⟨(some 5), (.mov (.c (.bool false))), none⟩]) (.seq (.seq (.ops [⟨(some 6), (.mov (.t 0)), none⟩, ⟨(some 7), (.mov (.t 1)), none⟩, ⟨(some 8), (.call 37 [(.t 6), (.t 7)]), none⟩, ⟨(some 9), (.not (.t 8)), none⟩]) (.cond (.t 9) (.seq (.ops [⟨(some 4), (.mov (.c (.int .i64 0))), none⟩, ⟨(some 5), (.mov (.c (.bool false))), none⟩]) .ret) .skip)) (.seq (.ops [⟨(some 10), (.mov (.t 0)), none⟩, ⟨(some 11), (.mov (.t 1)), none⟩, ⟨(some 12), (.call 39 [(.t 10), (.t 11)]), none⟩, ⟨(some 4), (.mov (.t 12)), none⟩, ⟨(some 5), (.mov (.c (.bool true))), none⟩]) .ret)))
theorem cc9 : ccode Tryd.prog (min Tryd.f9.ntmps pbase) (Tryd.f9.body.getD .skip) = some ac9 := by kernel_rfl
def ac10 : ACode := (.seq (.ops [⟨(some 2), (.nils 1), none⟩, ⟨(some 3), (.mov (.c (.bool false))), none⟩]) (.seq (.ops [⟨(some 7), (.mov (.t 0)), none⟩, ⟨(some 8), (.call 40 [(.t 7)]), none⟩, ⟨(some 6), (.mov (.t 8)), none⟩, ⟨(some 9), (.ext (.t 6) 0), none⟩, ⟨(some 10), (.ext (.t 6) 1), none⟩, ⟨(some 4), (.alloc [(.int .i64 0), (.map none)]), none⟩, ⟨none, (.st 2 (.t 4) (.t 9)), none⟩, ⟨(some 5), (.mov (.t 10)), none⟩]) (.seq (.seq (.ops [⟨(some 11), (.mov (.t 5)), none⟩, ⟨(some 12), (.not (.t 11)), none⟩]) (.cond (.t 12) (.seq (.ops [⟨(some 2), (.nils 1), none⟩, ⟨(some 3), (.mov (.c (.bool false))), none⟩]) .ret) .skip)) (.seq (.ops [⟨(some 13), (.fa 0 (.t 4)), none⟩, ⟨(some 14), (.ld none (.t 13)), none⟩, ⟨(some 15), (.ld (some 2) (.t 4)), none⟩, ⟨(some 16), (.mkf 36 1 [(.t 15)]), none⟩, ⟨(some 17), (.call 41 [(.t 14), (.t 16)]), none⟩, ⟨(some 18), (.ext (.t 17) 0), none⟩, ⟨(some 19), (.ext (.t 17) 1), none⟩, ⟨(some 2), (.mov (.t 18)), none⟩, ⟨(some 3), (.mov (.t 19)), none⟩]) .ret))))
theorem cc10 : ccode Tryd.prog (min Tryd.f10.ntmps pbase) (Tryd.f10.body.getD .skip) = some ac10 := by kernel_rfl
def ac11 : ACode := (.seq (.ops [⟨(some 2), (.nils 1), none⟩, ⟨(some 3), (.mov (.c (.bool false))), none⟩]) (.seq (.seq (.ops [⟨(some 5), (.mov (.t 0)), none⟩, ⟨(some 6), (.call 42 [(.t 5)]), none⟩, ⟨(some 7), (.not (.t 6)), none⟩]) (.cond (.t 7) (.seq (.ops [⟨(some 2), (.nils 1), none⟩, ⟨(some 3), (.mov (.c (.bool false))), none⟩]) .ret) .skip)) (.seq (.ops [⟨(some 8), (.mov (.t 0)), none⟩, ⟨(some 9), (.call 38 [(.t 8), (.c (.slice none 0 0)), (.c (.slice none 0 0))]), none⟩, ⟨(some 4), (.mov (.t 9)), none⟩]) (.seq (.ops [⟨(some 10), (.mov (.t 4)), none⟩, ⟨(some 11), (.mov (.t 4)), none⟩, ⟨(some 12), (.len (.t 11)), none⟩, ⟨(some 13), (.bin .gtr (.t 12) (.c (.int .i64 0))), none⟩, ⟨(some 2), (.mov (.t 10)), none⟩, ⟨(some 3), (.mov (.t 13)), none⟩]) .ret))))
theorem cc11 : ccode Tryd.prog (min Tryd.f11.ntmps pbase) (Tryd.f11.body.getD .skip) = some ac11 := by kernel_rfl
def ac12 : ACode := (.seq (.ops [⟨(some 2), (.mov (.c (.int .i64 0))), none⟩, ⟨(some 3), (.mov (.c (.bool false))), none⟩]) (.seq (.ops [⟨(some 7), (.mov (.t 0)), none⟩, ⟨(some 8), (.call 40 [(.t 7)]), none⟩, ⟨(some 6), (.mov (.t 8)), none⟩, ⟨(some 9), (.ext (.t 6) 0), none⟩, ⟨(some 10), (.ext (.t 6) 1), none⟩, ⟨(some 4), (.alloc [(.int .i64 0), (.map none)]), none⟩, ⟨none, (.st 2 (.t 4) (.t 9)), none⟩, ⟨(some 5), (.mov (.t 10)), none⟩]) (.seq (.seq (.ops [⟨(some 11), (.mov (.t 5)), none⟩, ⟨(some 12), (.not (.t 11)), none⟩]) (.cond (.t 12) (.seq (.ops [⟨(some 2), (.mov (.c (.int .i64 0))), none⟩, ⟨(some 3), (.mov (.c (.bool false))), none⟩]) .ret) .skip)) (.seq (.ops [⟨(some 13), (.ld (some 2) (.t 4)), none⟩, ⟨(some 14), (.call 43 [(.t 13)]), none⟩, ⟨(some 15), (.idx 1 (.t 14) (.c (.int .i64 0))), none⟩, ⟨(some 16), (.ld none (.t 15)), none⟩, ⟨(some 2), (.mov (.t 16)), none⟩, ⟨(some 3), (.mov (.c (.bool true))), none⟩]) .ret))))
theorem cc12 : ccode Tryd.prog (min Tryd.f12.ntmps pbase) (Tryd.f12.body.getD .skip) = some ac12 := by kernel_rfl
def ac13 : ACode := (.seq (.ops [⟨(some 2), (.mov (.c (.int .i64 0))), none⟩, ⟨(some 3), (.mov (.c (.bool false))), none⟩]) (.seq (.seq (.ops [⟨(some 4), (.mov (.t 0)), none⟩, ⟨(some 5), (.call 42 [(.t 4)]), none⟩, ⟨(some 6), (.not (.t 5)), none⟩]) (.cond (.t 6) (.seq (.ops [⟨(some 2), (.mov (.c (.int .i64 0))), none⟩, ⟨(some 3), (.mov (.c (.bool false))), none⟩]) .ret) .skip)) (.seq (.ops [⟨(some 7), (.mov (.t 0)), none⟩, ⟨(some 8), (.call 44 [(.t 7)]), none⟩, ⟨(some 9), (.idx 1 (.t 8) (.c (.int .i64 0))), none⟩, ⟨(some 10), (.ld none (.t 9)), none⟩, ⟨(some 2), (.mov (.t 10)), none⟩, ⟨(some 3), (.mov (.c (.bool true))), none⟩]) .ret)))
theorem cc13 : ccode Tryd.prog (min Tryd.f13.ntmps pbase) (Tryd.f13.body.getD .skip) = some ac13 := by kernel_rfl
def ac14 : ACode := (.seq (.ops [⟨(some 4), (.mov (.c (.bool false))), none⟩]) (.seq (.seq (.ops [⟨(some 6), (.mov (.t 0)), none⟩, ⟨(some 7), (.len (.t 6)), none⟩, ⟨(some 8), (.mov (.t 1)), none⟩, ⟨(some 9), (.len (.t 8)), none⟩, ⟨(some 10), (.bin .neq (.t 7) (.t 9)), none⟩]) (.cond (.t 10) (.seq (.ops [⟨(some 4), (.mov (.c (.bool false))), none⟩]) .ret) .skip)) (.seq (.seq (.ops [⟨(some 11), (.mov (.t 0)), none⟩, ⟨(some 12), (.len (.t 11)), none⟩, ⟨(some 13), (.mov (.c (.int .i64 0))), none⟩]) (.block 0 (.loop (.seq (.ops [⟨(some 14), (.bin .lss (.t 13) (.t 12)), none⟩]) (.seq (.cond (.t 14) .skip (.exit 0)) (.seq (.block 1 (.seq (.ops [⟨(some 15), (.mov (.t 13)), none⟩, ⟨(some 5), (.mov (.t 15)), none⟩]) (.seq (.tree (.take ⟨(some 16), (.mov (.t 0)), none⟩ (.take ⟨(some 17), (.mov (.t 5)), none⟩ (.take ⟨(some 18), (.idx 1 (.t 16) (.t 17)), none⟩ (.take ⟨(some 19), (.ld none (.t 18)), none⟩ (.take ⟨(some 20), (.mov (.t 1)), none⟩ (.take ⟨(some 21), (.mov (.t 5)), none⟩ (.take ⟨(some 22), (.idx 1 (.t 20) (.t 21)), none⟩ (.take ⟨(some 23), (.ld none (.t 22)), none⟩ (.take ⟨(some 24), (.bin .neq (.t 19) (.t 23)), none⟩ .done)))))))))) (.cond (.t 24) (.seq (.ops [⟨(some 4), (.mov (.c (.bool false))), none⟩]) .ret) .skip)))) (.ops [⟨(some 25), (.bin .add (.t 13) (.c (.int .i64 1))), none⟩, ⟨(some 13), (.mov (.t 25)), none⟩]))))))) (.seq (.ops [⟨(some 4), (.mov (.c (.bool true))), none⟩]) .ret))))
theorem cc14 : ccode Tryd.prog (min Tryd.f14.ntmps pbase) (Tryd.f14.body.getD .skip) = some ac14 := by kernel_rfl
def ac15 : ACode := (.seq (.ops [⟨(some 2), (.mov (.c (.bool false))), none⟩]) (.seq (.ops [⟨(some 6), (.mov (.t 0)), none⟩, ⟨(some 7), (.call 40 [(.t 6)]), none⟩, ⟨(some 5), (.mov (.t 7)), none⟩, ⟨(some 8), (.ext (.t 5) 0), none⟩, ⟨(some 9), (.ext (.t 5) 1), none⟩, ⟨(some 3), (.alloc [(.int .i64 0), (.map none)]), none⟩, ⟨none, (.st 2 (.t 3) (.t 8)), none⟩, ⟨(some 4), (.mov (.t 9)), none⟩]) (.seq (.ops [⟨(some 10), (.mov (.t 4)), none⟩, ⟨(some 2), (.mov (.t 10)), none⟩]) .ret)))
theorem cc15 : ccode Tryd.prog (min Tryd.f15.ntmps pbase) (Tryd.f15.body.getD .skip) = some ac15 := by kernel_rfl
def ac16 : ACode := (.seq (.ops [⟨(some 2), (.mov (.c (.bool false))), none⟩]) (.seq (.ops [⟨(some 3), (.mov (.t 0)), none⟩, ⟨(some 4), (.call 42 [(.t 3)]), none⟩, ⟨(some 2), (.mov (.t 4)), none⟩]) .ret))
theorem cc16 : ccode Tryd.prog (min Tryd.f16.ntmps pbase) (Tryd.f16.body.getD .skip) = some ac16 := by kernel_rfl
def ac17 : ACode := (.seq (.ops [⟨(some 4), (.mov (.c (.bool false))), none⟩]) (.seq (.seq (.ops [⟨(some 5), (.mov (.c (.int .i64 0))), none⟩]) (.block 0 (.loop (.seq (.seq (.ops [⟨(some 6), (.mov (.t 5)), none⟩, ⟨(some 7), (.mov (.t 0)), none⟩, ⟨(some 8), (.len (.t 7)), none⟩, ⟨(some 9), (.bin .lss (.t 6) (.t 8)), none⟩, ⟨(some 10), (.mov (.t 9)), none⟩, ⟨(some 11), (.mov (.t 5)), (some (10, true))⟩, ⟨(some 12), (.mov (.t 1)), (some (10, true))⟩, ⟨(some 13), (.len (.t 12)), (some (10, true))⟩, ⟨(some 14), (.bin .lss (.t 11) (.t 13)), (some (10, true))⟩, ⟨(some 15), (.pick (.t 10) (.t 14) (.c (.bool false))), none⟩]) (.cond (.t 15) .skip (.exit 0))) (.seq (.block 1 (.seq (.tree (.take ⟨(some 18), (.mov (.t 0)), none⟩ (.take ⟨(some 19), (.mov (.t 5)), none⟩ (.take ⟨(some 20), (.idx 1 (.t 18) (.t 19)), none⟩ (.take ⟨(some 21), (.ld none (.t 20)), none⟩ (.take ⟨(some 22), (.mov (.t 1)), none⟩ (.take ⟨(some 23), (.mov (.t 5)), none⟩ (.take ⟨(some 24), (.idx 1 (.t 22) (.t 23)), none⟩ (.take ⟨(some 25), (.ld none (.t 24)), none⟩ (.take ⟨(some 26), (.bin .neq (.t 21) (.t 25)), none⟩ .done)))))))))) (.cond (.t 26) (.seq (.tree (.take ⟨(some 27), (.mov (.t 0)), none⟩ (.take ⟨(some 28), (.mov (.t 5)), none⟩ (.take ⟨(some 29), (.idx 1 (.t 27) (.t 28)), none⟩ (.take ⟨(some 30), (.ld none (.t 29)), none⟩ (.take ⟨(some 31), (.mov (.t 1)), none⟩ (.take ⟨(some 32), (.mov (.t 5)), none⟩ (.take ⟨(some 33), (.idx 1 (.t 31) (.t 32)), none⟩ (.take ⟨(some 34), (.ld none (.t 33)), none⟩ (.take ⟨(some 35), (.bin .lss (.t 30) (.t 34)), none⟩ (.take ⟨(some 4), (.mov (.t 35)), none⟩ .done))))))))))) .ret) .skip))) (.ops [⟨(some 16), (.mov (.t 5)), none⟩, ⟨(some 17), (.bin .add (.t 16) (.c (.int .i64 1))), none⟩, ⟨(some 5), (.mov (.t 17)), none⟩])))))) (.seq (.ops [⟨(some 36), (.mov (.t 0)), none⟩, ⟨(some 37), (.len (.t 36)), none⟩, ⟨(some 38), (.mov (.t 1)), none⟩, ⟨(some 39), (.len (.t 38)), none⟩, ⟨(some 40), (.bin .lss (.t 37) (.t 39)), none⟩, ⟨(some 4), (.mov (.t 40)), none⟩]) .ret)))
theorem cc17 : ccode Tryd.prog (min Tryd.f17.ntmps pbase) (Tryd.f17.body.getD .skip) = some ac17 := by kernel_rfl
def ac18 : ACode := (.seq (.ops [⟨(some 2), (.nils 1), none⟩, ⟨(some 3), (.mov (.c (.bool false))), none⟩]) (.seq (.ops [⟨(some 7), (.mov (.t 0)), none⟩, ⟨(some 8), (.call 40 [(.t 7)]), none⟩, ⟨(some 6), (.mov (.t 8)), none⟩, ⟨(some 9), (.ext (.t 6) 0), none⟩, ⟨(some 10), (.ext (.t 6) 1), none⟩, ⟨(some 4), (.alloc [(.int .i64 0), (.map none)]), none⟩, ⟨none, (.st 2 (.t 4) (.t 9)), none⟩, ⟨(some 5), (.mov (.t 10)), none⟩]) (.seq (.seq (.ops [⟨(some 11), (.mov (.t 5)), none⟩, ⟨(some 12), (.not (.t 11)), none⟩]) (.cond (.t 12) (.seq (.ops [⟨(some 2), (.nils 1), none⟩, ⟨(some 3), (.mov (.c (.bool false))), none⟩]) .ret) .skip)) (.seq (.ops [⟨(some 13), (.ld (some 2) (.t 4)), none⟩, ⟨(some 14), (.call 43 [(.t 13)]), none⟩, ⟨(some 2), (.mov (.t 14)), none⟩, ⟨(some 3), (.mov (.c (.bool true))), none⟩]) .ret))))
theorem cc18 : ccode Tryd.prog (min Tryd.f18.ntmps pbase) (Tryd.f18.body.getD .skip) = some ac18 := by kernel_rfl
def ac19 : ACode := (.seq (.ops [⟨(some 2), (.nils 1), none⟩, ⟨(some 3), (.mov (.c (.bool false))), none⟩]) (.seq (.seq (.ops [⟨(some 4), (.mov (.t 0)), none⟩, ⟨(some 5), (.call 42 [(.t 4)]), none⟩, ⟨(some 6), (.not (.t 5)), none⟩]) (.cond (.t 6) (.seq (.ops [⟨(some 2), (.nils 1), none⟩, ⟨(some 3), (.mov (.c (.bool false))), none⟩]) .ret) .skip)) (.seq (.ops [⟨(some 7), (.mov (.t 0)), none⟩, ⟨(some 8), (.call 44 [(.t 7)]), none⟩, ⟨(some 2), (.mov (.t 8)), none⟩, ⟨(some 3), (.mov (.c (.bool true))), none⟩]) .ret)))
theorem cc19 : ccode Tryd.prog (min Tryd.f19.ntmps pbase) (Tryd.f19.body.getD .skip) = some ac19 := by kernel_rfl
def ac20 : ACode := (.seq (.ops [⟨(some 2), (.nils 1), none⟩, ⟨(some 3), (.mov (.c (.bool false))), none⟩]) (.seq (.ops [⟨(some 7), (.mov (.t 0)), none⟩, ⟨(some 8), (.call 40 [(.t 7)]), none⟩, ⟨(some 6), (.mov (.t 8)), none⟩, ⟨(some 9), (.ext (.t 6) 0), none⟩, ⟨(some 10), (.ext (.t 6) 1), none⟩, ⟨(some 4), (.alloc [(.int .i64 0), (.map none)]), none⟩, ⟨none, (.st 2 (.t 4) (.t 9)), none⟩, ⟨(some 5), (.mov (.t 10)), none⟩]) (.seq (.seq (.ops [⟨(some 11), (.mov (.t 5)), none⟩, ⟨(some 12), (.not (.t 11)), none⟩]) (.cond (.t 12) (.seq (.ops [⟨(some 2), (.nils 1), none⟩, ⟨(some 3), (.mov (.c (.bool false))), none⟩]) .ret) .skip)) (.seq (.ops [⟨(some 13), (.ld (some 2) (.t 4)), none⟩, ⟨(some 14), (.call 45 [(.t 13)]), none⟩, ⟨(some 2), (.mov (.t 14)), none⟩, ⟨(some 3), (.mov (.c (.bool true))), none⟩]) .ret))))
theorem cc20 : ccode Tryd.prog (min Tryd.f20.ntmps pbase) (Tryd.f20.body.getD .skip) = some ac20 := by kernel_rfl
def ac21 : ACode := (.seq (.ops [⟨(some 2), (.nils 1), none⟩, ⟨(some 3), (.mov (.c (.bool false))), none⟩]) (.seq (.seq (.ops [⟨(some 4), (.mov (.t 0)), none⟩, ⟨(some 5), (.call 42 [(.t 4)]), none⟩, ⟨(some 6), (.not (.t 5)), none⟩]) (.cond (.t 6) (.seq (.ops [⟨(some 2), (.nils 1), none⟩, ⟨(some 3), (.mov (.c (.bool false))), none⟩]) .ret) .skip)) (.seq (.ops [⟨(some 7), (.mov (.t 0)), none⟩, ⟨(some 8), (.call 46 [(.t 7), (.c (.int .i64 0)), (.c (.int .i64 0))]), none⟩, ⟨(some 2), (.mov (.t 8)), none⟩, ⟨(some 3), (.mov (.c (.bool true))), none⟩]) .ret)))
theorem cc21 : ccode Tryd.prog (min Tryd.f21.ntmps pbase) (Tryd.f21.body.getD .skip) = some ac21 := by kernel_rfl
def ac22 : ACode := (.seq (.ops [⟨(some 2), (.mov (.c (.int .i64 0))), none⟩, ⟨(some 3), (.mov (.c (.bool false))), none⟩]) (.seq (.ops [⟨(some 9), (.mov (.t 0)), none⟩, ⟨(some 10), (.call 40 [(.t 9)]), none⟩, ⟨(some 8), (.mov (.t 10)), none⟩, ⟨(some 11), (.ext (.t 8) 0), none⟩, ⟨(some 12), (.ext (.t 8) 1), none⟩, ⟨(some 4), (.alloc [(.int .i64 0), (.map none)]), none⟩, ⟨none, (.st 2 (.t 4) (.t 11)), none⟩, ⟨(some 5), (.mov (.t 12)), none⟩]) (.seq (.seq (.ops [⟨(some 13), (.mov (.t 5)), none⟩, ⟨(some 14), (.not (.t 13)), none⟩]) (.cond (.t 14) (.seq (.ops [⟨(some 2), (.mov (.c (.int .i64 0))), none⟩, ⟨(some 3), (.mov (.c (.bool false))), none⟩]) .ret) .skip)) (.seq (.ops [⟨(some 15), (.ld (some 2) (.t 4)), none⟩, ⟨(some 16), (.call 45 [(.t 15)]), none⟩, ⟨(some 6), (.mov (.t 16)), none⟩]) (.seq (.ops [⟨(some 17), (.fa 0 (.t 4)), none⟩, ⟨(some 18), (.ld none (.t 17)), none⟩, ⟨(some 7), (.mov (.t 18)), none⟩]) (.seq (.block 0 (.loop (.seq (.seq (.ops [⟨(some 19), (.mov (.t 6)), none⟩, ⟨(some 20), (.mov (.t 7)), none⟩, ⟨(some 21), (.idx 1 (.t 19) (.t 20)), none⟩, ⟨(some 22), (.ld none (.t 21)), none⟩, ⟨(some 23), (.bin .eql (.t 22) (.c (.int .i64 0))), none⟩]) (.cond (.t 23) .skip (.exit 0))) (.block 1 (.ops [⟨(some 24), (.mov (.t 7)), none⟩, ⟨(some 25), (.bin .sub (.t 24) (.c (.int .i64 1))), none⟩, ⟨(some 7), (.mov (.t 25)), none⟩]))))) (.seq (.ops [⟨(some 26), (.mov (.t 7)), none⟩, ⟨(some 2), (.mov (.t 26)), none⟩, ⟨(some 3), (.mov (.c (.bool true))), none⟩]) .ret)))))))
theorem cc22 : ccode Tryd.prog (min Tryd.f22.ntmps pbase) (Tryd.f22.body.getD .skip) = some ac22 := by kernel_rfl
def ac23 : ACode := (.seq (.ops [⟨(some 2), (.mov (.c (.int .i64 0))), none⟩, ⟨(some 3), (.mov (.c (.bool false))), none⟩]) (.seq (.seq (.ops [⟨(some 4), (.mov (.t 0)), none⟩, ⟨(some 5), (.call 42 [(.t 4)]), none⟩, ⟨(some 6), (.not (.t 5)), none⟩]) (.cond (.t 6) (.seq (.ops [⟨(some 2), (.mov (.c (.int .i64 0))), none⟩, ⟨(some 3), (.mov (.c (.bool false))), none⟩]) .ret) .skip)) (.seq (.ops [⟨(some 7), (.mov (.t 0)), none⟩, ⟨(some 8), (.call 47 [(.t 7)]), none⟩, ⟨(some 2), (.mov (.t 8)), none⟩, ⟨(some 3), (.mov (.c (.bool true))), none⟩]) .ret)))
theorem cc23 : ccode Tryd.prog (min Tryd.f23.ntmps pbase) (Tryd.f23.body.getD .skip) = some ac23 := by kernel_rfl
def ac24 : ACode := (.seq (.ops [⟨(some 2), (.nils 1), none⟩, ⟨(some 3), (.nils 1), none⟩, ⟨(some 4), (.mov (.c (.bool false))), none⟩]) (.seq (.ops [⟨(some 9), (.mov (.t 0)), none⟩, ⟨(some 10), (.call 40 [(.t 9)]), none⟩, ⟨(some 8), (.mov (.t 10)), none⟩, ⟨(some 11), (.ext (.t 8) 0), none⟩, ⟨(some 12), (.ext (.t 8) 1), none⟩, ⟨(some 5), (.alloc [(.int .i64 0), (.map none)]), none⟩, ⟨none, (.st 2 (.t 5) (.t 11)), none⟩, ⟨(some 6), (.mov (.t 12)), none⟩]) (.seq (.seq (.ops [⟨(some 13), (.mov (.t 6)), none⟩, ⟨(some 14), (.not (.t 13)), none⟩]) (.cond (.t 14) (.seq (.ops [⟨(some 2), (.nils 1), none⟩, ⟨(some 3), (.nils 1), none⟩, ⟨(some 4), (.mov (.c (.bool false))), none⟩]) .ret) .skip)) (.seq (.ops [⟨(some 15), (.ld (some 2) (.t 5)), none⟩, ⟨(some 16), (.call 48 [(.t 15)]), none⟩, ⟨(some 7), (.mov (.t 16)), none⟩]) (.seq (.tree (.take ⟨(some 17), (.mov (.t 7)), none⟩ (.alt (.one ⟨(some 18), (.call 49 [(.t 17)]), none⟩ (.two ⟨(some 19), (.ld (some 2) (.t 5)), none⟩ (.take ⟨(some 20), (.mov (.t 7)), none⟩ (.take ⟨(some 21), (.call 50 [(.t 19), (.t 20)]), none⟩ (.own ⟨(some 22), (.call 49 [(.t 21)]), none⟩ (.take ⟨(some 2), (.mov (.t 18)), none⟩ (.take ⟨(some 3), (.mov (.t 22)), none⟩ (.take ⟨(some 4), (.mov (.c (.bool true))), none⟩ .done)))))) ⟨(some 20), (.mov (.t 7)), none⟩ (.take ⟨(some 19), (.ld (some 2) (.t 5)), none⟩ (.take ⟨(some 21), (.call 50 [(.t 19), (.t 20)]), none⟩ (.own ⟨(some 22), (.call 49 [(.t 21)]), none⟩ (.take ⟨(some 2), (.mov (.t 18)), none⟩ (.take ⟨(some 3), (.mov (.t 22)), none⟩ (.take ⟨(some 4), (.mov (.c (.bool true))), none⟩ .done)))))))) (.alt (.take ⟨(some 19), (.ld (some 2) (.t 5)), none⟩ (.own ⟨(some 18), (.call 49 [(.t 17)]), none⟩ (.take ⟨(some 20), (.mov (.t 7)), none⟩ (.take ⟨(some 21), (.call 50 [(.t 19), (.t 20)]), none⟩ (.own ⟨(some 22), (.call 49 [(.t 21)]), none⟩ (.take ⟨(some 2), (.mov (.t 18)), none⟩ (.take ⟨(some 3), (.mov (.t 22)), none⟩ (.take ⟨(some 4), (.mov (.c (.bool true))), none⟩ .done)))))))) (.alt (.take ⟨(some 20), (.mov (.t 7)), none⟩ (.alt (.one ⟨(some 18), (.call 49 [(.t 17)]), none⟩ (.take ⟨(some 19), (.ld (some 2) (.t 5)), none⟩ (.take ⟨(some 21), (.call 50 [(.t 19), (.t 20)]), none⟩ (.own ⟨(some 22), (.call 49 [(.t 21)]), none⟩ (.take ⟨(some 2), (.mov (.t 18)), none⟩ (.take ⟨(some 3), (.mov (.t 22)), none⟩ (.take ⟨(some 4), (.mov (.c (.bool true))), none⟩ .done))))))) (.take ⟨(some 19), (.ld (some 2) (.t 5)), none⟩ (.own ⟨(some 18), (.call 49 [(.t 17)]), none⟩ (.take ⟨(some 21), (.call 50 [(.t 19), (.t 20)]), none⟩ (.own ⟨(some 22), (.call 49 [(.t 21)]), none⟩ (.take ⟨(some 2), (.mov (.t 18)), none⟩ (.take ⟨(some 3), (.mov (.t 22)), none⟩ (.take ⟨(some 4), (.mov (.c (.bool true))), none⟩ .done))))))))) .top))))) .ret)))))
theorem cc24 : ccode Tryd.prog (min Tryd.f24.ntmps pbase) (Tryd.f24.body.getD .skip) = some ac24 := by kernel_rfl
def ac25 : ACode := (.seq (.ops [⟨(some 2), (.nils 1), none⟩, ⟨(some 3), (.nils 1), none⟩, ⟨(some 4), (.mov (.c (.bool false))), none⟩]) (.seq (.seq (.ops [⟨(some 16), (.mov (.t 0)), none⟩, ⟨(some 17), (.call 42 [(.t 16)]), none⟩, ⟨(some 18), (.not (.t 17)), none⟩]) (.cond (.t 18) (.seq (.ops [⟨(some 2), (.nils 1), none⟩, ⟨(some 3), (.nils 1), none⟩, ⟨(some 4), (.mov (.c (.bool false))), none⟩]) .ret) .skip)) (.seq (.ops [⟨(some 19), (.mov (.t 0)), none⟩, ⟨(some 20), (.call 47 [(.t 19)]), none⟩, ⟨(some 5), (.mov (.t 20)), none⟩]) (.seq (.ops [⟨(some 6), (.nils 1), none⟩, ⟨(some 7), (.nils 1), none⟩]) (.seq (.ops [⟨(some 8), (.mov (.c (.bool false))), none⟩]) (.seq (.seq (.ops [⟨(some 9), (.mov (.c (.int .i64 0))), none⟩]) (.block 0 (.loop (.seq (.seq (.ops [⟨(some 21), (.mov (.t 9)), none⟩, ⟨(some 22), (.mov (.t 0)), none⟩, ⟨(some 23), (.call 51 [(.t 22)]), none⟩, ⟨(some 24), (.bin .shl (.c (.int .i64 1)) (.t 23)), none⟩, ⟨(some 25), (.bin .lss (.t 21) (.t 24)), none⟩]) (.cond (.t 25) .skip (.exit 0))) (.seq (.block 1 (.seq (.ops [⟨(some 10), (.nils 1), none⟩, ⟨(some 11), (.nils 1), none⟩]) (.seq (.seq (.ops [⟨(some 12), (.mov (.c (.int .i64 0))), none⟩]) (.block 2 (.loop (.seq (.seq (.ops [⟨(some 28), (.mov (.t 12)), none⟩, ⟨(some 29), (.mov (.t 0)), none⟩, ⟨(some 30), (.call 51 [(.t 29)]), none⟩, ⟨(some 31), (.bin .lss (.t 28) (.t 30)), none⟩]) (.cond (.t 31) .skip (.exit 2))) (.seq (.block 3 (.seq (.ops [⟨(some 34), (.mov (.t 9)), none⟩, ⟨(some 35), (.mov (.t 12)), none⟩, ⟨(some 36), (.bin .shr (.t 34) (.t 35)), none⟩, ⟨(some 37), (.bin .and (.t 36) (.c (.int .i64 1))), none⟩, ⟨(some 38), (.bin .eql (.t 37) (.c (.int .i64 1))), none⟩]) (.cond (.t 38) (.ops [⟨(some 39), (.mov (.t 10)), none⟩, ⟨(some 40), (.mov (.t 12)), none⟩, ⟨(some 41), (.bsl 1 1 [(.int .i64 0)] [(0, (.t 40))]), none⟩, ⟨(some 42), (.app 1 8 (.t 39) (.t 41)), none⟩, ⟨(some 10), (.mov (.t 42)), none⟩]) .skip))) (.ops [⟨(some 32), (.mov (.t 12)), none⟩, ⟨(some 33), (.bin .add (.t 32) (.c (.int .i64 1))), none⟩, ⟨(some 12), (.mov (.t 33)), none⟩])))))) (.seq (.seq (.ops [⟨(some 13), (.mov (.c (.int .i64 0))), none⟩]) (.block 4 (.loop (.seq (.seq (.ops [⟨(some 43), (.mov (.t 13)), none⟩, ⟨(some 44), (.mov (.t 0)), none⟩, ⟨(some 45), (.call 51 [(.t 44)]), none⟩, ⟨(some 46), (.bin .lss (.t 43) (.t 45)), none⟩]) (.cond (.t 46) .skip (.exit 4))) (.seq (.block 5 (.seq (.ops [⟨(some 14), (.mov (.c (.bool false))), none⟩]) (.seq (.seq (.ops [⟨(some 15), (.mov (.c (.int .i64 0))), none⟩]) (.block 6 (.loop (.seq (.seq (.ops [⟨(some 49), (.mov (.t 15)), none⟩, ⟨(some 50), (.mov (.t 0)), none⟩, ⟨(some 51), (.call 51 [(.t 50)]), none⟩, ⟨(some 52), (.bin .lss (.t 49) (.t 51)), none⟩]) (.cond (.t 52) .skip (.exit 6))) (.seq (.block 7 (.ops [⟨(some 55), (.mov (.t 14)), none⟩, ⟨(some 56), (.mov (.t 55)), none⟩, ⟨(some 57), (.mov (.t 0)), (some (56, false))⟩, ⟨(some 58), (.mov (.t 15)), (some (56, false))⟩, ⟨(some 59), (.mov (.t 13)), (some (56, false))⟩, ⟨(some 60), (.call 52 [(.t 57), (.t 58), (.t 59)]), (some (56, false))⟩, ⟨(some 61), (.mov (.t 60)), (some (56, false))⟩, ⟨(some 62), (.mov (.t 10)), (some (61, true))⟩, ⟨(some 63), (.mov (.t 15)), (some (61, true))⟩, ⟨(some 64), (.call 53 [(.t 62), (.t 63)]), (some (61, true))⟩, ⟨(some 65), (.not (.t 64)), (some (61, true))⟩, ⟨(some 66), (.pick (.t 61) (.t 65) (.c (.bool false))), (some (56, false))⟩, ⟨(some 67), (.pick (.t 56) (.c (.bool true)) (.t 66)), none⟩, ⟨(some 14), (.mov (.t 67)), none⟩])) (.ops [⟨(some 53), (.mov (.t 15)), none⟩, ⟨(some 54), (.bin .add (.t 53) (.c (.int .i64 1))), none⟩, ⟨(some 15), (.mov (.t 54)), none⟩])))))) (.seq (.ops [⟨(some 68), (.mov (.t 14)), none⟩]) (.cond (.t 68) (.ops [⟨(some 69), (.mov (.t 11)), none⟩, ⟨(some 70), (.mov (.t 13)), none⟩, ⟨(some 71), (.bsl 1 1 [(.int .i64 0)] [(0, (.t 70))]), none⟩, ⟨(some 72), (.app 1 8 (.t 69) (.t 71)), none⟩, ⟨(some 11), (.mov (.t 72)), none⟩]) .skip))))) (.ops [⟨(some 47), (.mov (.t 13)), none⟩, ⟨(some 48), (.bin .add (.t 47) (.c (.int .i64 1))), none⟩, ⟨(some 13), (.mov (.t 48)), none⟩])))))) (.seq (.ops [⟨(some 73), (.mov (.t 10)), none⟩, ⟨(some 74), (.len (.t 73)), none⟩, ⟨(some 75), (.mov (.t 11)), none⟩, ⟨(some 76), (.len (.t 75)), none⟩, ⟨(some 77), (.bin .add (.t 74) (.t 76)), none⟩, ⟨(some 78), (.mov (.t 5)), none⟩, ⟨(some 79), (.bin .eql (.t 77) (.t 78)), none⟩, ⟨(some 80), (.mov (.t 79)), none⟩, ⟨(some 81), (.mov (.t 8)), (some (80, true))⟩, ⟨(some 82), (.not (.t 81)), (some (80, true))⟩, ⟨(some 83), (.mov (.t 82)), (some (80, true))⟩, ⟨(some 84), (.mov (.t 10)), (some (83, false))⟩, ⟨(some 85), (.mov (.t 6)), (some (83, false))⟩, ⟨(some 86), (.call 54 [(.t 84), (.t 85)]), (some (83, false))⟩, ⟨(some 87), (.pick (.t 83) (.c (.bool true)) (.t 86)), (some (80, true))⟩, ⟨(some 88), (.pick (.t 80) (.t 87) (.c (.bool false))), none⟩]) (.cond (.t 88) (.seq (.ops [⟨(some 89), (.mov (.t 10)), none⟩, ⟨(some 6), (.mov (.t 89)), none⟩]) (.seq (.ops [⟨(some 90), (.mov (.t 11)), none⟩, ⟨(some 7), (.mov (.t 90)), none⟩]) (.ops [⟨(some 8), (.mov (.c (.bool true))), none⟩]))) .skip)))))) (.ops [⟨(some 26), (.mov (.t 9)), none⟩, ⟨(some 27), (.bin .add (.t 26) (.c (.int .i64 1))), none⟩, ⟨(some 9), (.mov (.t 27)), none⟩])))))) (.seq (.ops [⟨(some 91), (.mov (.t 6)), none⟩, ⟨(some 92), (.mov (.t 7)), none⟩, ⟨(some 2), (.mov (.t 91)), none⟩, ⟨(some 3), (.mov (.t 92)), none⟩, ⟨(some 4), (.mov (.c (.bool true))), none⟩]) .ret)))))))
theorem cc25 : ccode Tryd.prog (min Tryd.f25.ntmps pbase) (Tryd.f25.body.getD .skip) = some ac25 := by kernel_rfl
def ac26 : ACode := (.seq (.ops [⟨(some 2), (.nils 1), none⟩, ⟨(some 3), (.mov (.c (.bool false))), none⟩]) (.seq (.ops [⟨(some 10), (.mov (.t 0)), none⟩, ⟨(some 11), (.call 40 [(.t 10)]), none⟩, ⟨(some 9), (.mov (.t 11)), none⟩, ⟨(some 12), (.ext (.t 9) 0), none⟩, ⟨(some 13), (.ext (.t 9) 1), none⟩, ⟨(some 4), (.alloc [(.int .i64 0), (.map none)]), none⟩, ⟨none, (.st 2 (.t 4) (.t 12)), none⟩, ⟨(some 5), (.mov (.t 13)), none⟩]) (.seq (.seq (.ops [⟨(some 14), (.mov (.t 5)), none⟩, ⟨(some 15), (.not (.t 14)), none⟩]) (.cond (.t 15) (.seq (.ops [⟨(some 2), (.nils 1), none⟩, ⟨(some 3), (.mov (.c (.bool false))), none⟩]) .ret) .skip)) (.seq (.ops [⟨(some 6), (.nils 1), none⟩]) (.seq (.seq (.ops [⟨(some 16), (.fa 0 (.t 4)), none⟩, ⟨(some 17), (.ld none (.t 16)), none⟩, ⟨(some 18), (.mov (.c (.int .i64 0))), none⟩]) (.block 0 (.loop (.seq (.ops [⟨(some 19), (.bin .lss (.t 18) (.t 17)), none⟩]) (.seq (.cond (.t 19) .skip (.exit 0)) (.seq (.block 1 (.seq (.ops [⟨(some 20), (.mov (.t 18)), none⟩, ⟨(some 7), (.mov (.t 20)), none⟩]) (.seq (.ops [⟨(some 21), (.fa 0 (.t 4)), none⟩, ⟨(some 22), (.ld none (.t 21)), none⟩, ⟨(some 23), (.mov (.c (.int .i64 0))), none⟩]) (.block 2 (.loop (.seq (.ops [⟨(some 24), (.bin .lss (.t 23) (.t 22)), none⟩]) (.seq (.cond (.t 24) .skip (.exit 2)) (.seq (.block 3 (.seq (.ops [⟨(some 25), (.mov (.t 23)), none⟩, ⟨(some 8), (.mov (.t 25)), none⟩]) (.seq (.ops [⟨(some 26), (.fa 1 (.t 4)), none⟩, ⟨(some 27), (.ld none (.t 26)), none⟩, ⟨(some 28), (.mov (.t 7)), none⟩, ⟨(some 29), (.mov (.t 8)), none⟩, ⟨(some 30), (.pu (.bld [(.int .i64 0), (.int .i64 0)] [(0, 1), (1, 1)]) [(.t 28), (.t 29)]), none⟩, ⟨(some 31), (.mgetk 54 (.bool false) false (.t 27) (.t 30)), none⟩]) (.cond (.t 31) (.ops [⟨(some 32), (.mov (.t 6)), none⟩, ⟨(some 33), (.mov (.t 7)), none⟩, ⟨(some 34), (.mov (.t 8)), none⟩, ⟨(some 35), (.bsl 1 2 [(.int .i64 0)] [(0, (.t 33)), (1, (.t 34))]), none⟩, ⟨(some 36), (.bsl 1 1 [(.slice none 0 0)] [(0, (.t 35))]), none⟩, ⟨(some 37), (.app 1 24 (.t 32) (.t 36)), none⟩, ⟨(some 6), (.mov (.t 37)), none⟩]) .skip)))) (.ops [⟨(some 38), (.bin .add (.t 23) (.c (.int .i64 1))), none⟩, ⟨(some 23), (.mov (.t 38)), none⟩]))))))))) (.ops [⟨(some 39), (.bin .add (.t 18) (.c (.int .i64 1))), none⟩, ⟨(some 18), (.mov (.t 39)), none⟩]))))))) (.seq (.ops [⟨(some 40), (.mov (.t 6)), none⟩, ⟨(some 2), (.mov (.t 40)), none⟩, ⟨(some 3), (.mov (.c (.bool true))), none⟩]) .ret))))))
theorem cc26 : ccode Tryd.prog (min Tryd.f26.ntmps pbase) (Tryd.f26.body.getD .skip) = some ac26 := by kernel_rfl
def ac27 : ACode := (.seq (.ops [⟨(some 2), (.nils 1), none⟩, ⟨(some 3), (.mov (.c (.bool false))), none⟩]) (.seq (.seq (.ops [⟨(some 4), (.mov (.t 0)), none⟩, ⟨(some 5), (.call 42 [(.t 4)]), none⟩, ⟨(some 6), (.not (.t 5)), none⟩]) (.cond (.t 6) (.seq (.ops [⟨(some 2), (.nils 1), none⟩, ⟨(some 3), (.mov (.c (.bool false))), none⟩]) .ret) .skip)) (.seq (.ops [⟨(some 7), (.mov (.t 0)), none⟩, ⟨(some 8), (.call 55 [(.t 7)]), none⟩, ⟨(some 2), (.mov (.t 8)), none⟩, ⟨(some 3), (.mov (.c (.bool true))), none⟩]) .ret)))
theorem cc27 : ccode Tryd.prog (min Tryd.f27.ntmps pbase) (Tryd.f27.body.getD .skip) = some ac27 := by kernel_rfl
def ac28 : ACode := (.seq (.ops [⟨(some 4), (.mov (.c (.bool false))), none⟩]) (.seq (.seq (.ops [⟨(some 6), (.mov (.t 0)), none⟩, ⟨(some 7), (.len (.t 6)), none⟩, ⟨(some 8), (.mov (.t 1)), none⟩, ⟨(some 9), (.len (.t 8)), none⟩, ⟨(some 10), (.bin .neq (.t 7) (.t 9)), none⟩]) (.cond (.t 10) (.seq (.ops [⟨(some 4), (.mov (.c (.bool false))), none⟩]) .ret) .skip)) (.seq (.seq (.ops [⟨(some 11), (.mov (.t 0)), none⟩, ⟨(some 12), (.len (.t 11)), none⟩, ⟨(some 13), (.mov (.c (.int .i64 0))), none⟩]) (.block 0 (.loop (.seq (.ops [⟨(some 14), (.bin .lss (.t 13) (.t 12)), none⟩]) (.seq (.cond (.t 14) .skip (.exit 0)) (.seq (.block 1 (.seq (.ops [⟨(some 15), (.mov (.t 13)), none⟩, ⟨(some 5), (.mov (.t 15)), none⟩]) (.seq (.tree (.take ⟨(some 16), (.mov (.t 0)), none⟩ (.take ⟨(some 17), (.mov (.t 5)), none⟩ (.take ⟨(some 18), (.idx 1 (.t 16) (.t 17)), none⟩ (.take ⟨(some 19), (.ld none (.t 18)), none⟩ (.take ⟨(some 20), (.mov (.t 1)), none⟩ (.take ⟨(some 21), (.mov (.t 5)), none⟩ (.take ⟨(some 22), (.idx 1 (.t 20) (.t 21)), none⟩ (.take ⟨(some 23), (.ld none (.t 22)), none⟩ (.take ⟨(some 24), (.call 14 [(.t 19), (.t 23)]), none⟩ (.take ⟨(some 25), (.not (.t 24)), none⟩ .done))))))))))) (.cond (.t 25) (.seq (.ops [⟨(some 4), (.mov (.c (.bool false))), none⟩]) .ret) .skip)))) (.ops [⟨(some 26), (.bin .add (.t 13) (.c (.int .i64 1))), none⟩, ⟨(some 13), (.mov (.t 26)), none⟩]))))))) (.seq (.ops [⟨(some 4), (.mov (.c (.bool true))), none⟩]) .ret))))
theorem cc28 : ccode Tryd.prog (min Tryd.f28.ntmps pbase) (Tryd.f28.body.getD .skip) = some ac28 := by kernel_rfl
def ac29 : ACode := (.seq (.ops [⟨(some 2), (.mov (.c (.int .i64 0))), none⟩, ⟨(some 3), (.mov (.c (.bool false))), none⟩]) (.seq (.ops [⟨(some 7), (.mov (.t 0)), none⟩, ⟨(some 8), (.call 40 [(.t 7)]), none⟩, ⟨(some 6), (.mov (.t 8)), none⟩, ⟨(some 9), (.ext (.t 6) 0), none⟩, ⟨(some 10), (.ext (.t 6) 1), none⟩, ⟨(some 4), (.alloc [(.int .i64 0), (.map none)]), none⟩, ⟨none, (.st 2 (.t 4) (.t 9)), none⟩, ⟨(some 5), (.mov (.t 10)), none⟩]) (.seq (.ops [⟨(some 11), (.fa 0 (.t 4)), none⟩, ⟨(some 12), (.ld none (.t 11)), none⟩, ⟨(some 13), (.mov (.t 5)), none⟩, ⟨(some 2), (.mov (.t 12)), none⟩, ⟨(some 3), (.mov (.t 13)), none⟩]) .ret)))
theorem cc29 : ccode Tryd.prog (min Tryd.f29.ntmps pbase) (Tryd.f29.body.getD .skip) = some ac29 := by kernel_rfl
def ac30 : ACode := (.seq (.ops [⟨(some 2), (.mov (.c (.int .i64 0))), none⟩]) (.seq (.ops [⟨(some 3), (.mov (.c (.int .i64 0))), none⟩]) (.seq (.seq (.ops [⟨(some 6), (.mov (.t 0)), none⟩, ⟨(some 7), (.len (.t 6)), none⟩, ⟨(some 8), (.mov (.c (.int .i64 0))), none⟩]) (.block 0 (.loop (.seq (.ops [⟨(some 9), (.bin .lss (.t 8) (.t 7)), none⟩]) (.seq (.cond (.t 9) .skip (.exit 0)) (.seq (.block 1 (.seq (.ops [⟨(some 10), (.idx 1 (.t 6) (.t 8)), none⟩, ⟨(some 11), (.ld none (.t 10)), none⟩, ⟨(some 5), (.mov (.t 11)), none⟩]) (.ops [⟨(some 12), (.mov (.t 3)), none⟩, ⟨(some 13), (.mov (.t 5)), none⟩, ⟨(some 14), (.bin .add (.t 12) (.t 13)), none⟩, ⟨(some 3), (.mov (.t 14)), none⟩]))) (.ops [⟨(some 15), (.bin .add (.t 8) (.c (.int .i64 1))), none⟩, ⟨(some 8), (.mov (.t 15)), none⟩]))))))) (.seq (.ops [⟨(some 16), (.mov (.t 3)), none⟩, ⟨(some 2), (.mov (.t 16)), none⟩]) .ret))))
theorem cc30 : ccode Tryd.prog (min Tryd.f30.ntmps pbase) (Tryd.f30.body.getD .skip) = some ac30 := by kernel_rfl
def ac31 : ACode := (.seq (.ops [⟨(some 2), (.mov (.c (.int .i64 0))), none⟩]) (.seq (.ops [⟨(some 3), (.mov (.c (.int .i64 1))), none⟩]) (.seq (.seq (.ops [⟨(some 4), (.mov (.c (.int .i64 2))), none⟩]) (.block 0 (.loop (.seq (.seq (.ops [⟨(some 5), (.mov (.t 4)), none⟩, ⟨(some 6), (.mov (.t 0)), none⟩, ⟨(some 7), (.bin .leq (.t 5) (.t 6)), none⟩]) (.cond (.t 7) .skip (.exit 0))) (.seq (.block 1 (.ops [⟨(some 10), (.mov (.t 3)), none⟩, ⟨(some 11), (.mov (.t 4)), none⟩, ⟨(some 12), (.bin .mul (.t 10) (.t 11)), none⟩, ⟨(some 3), (.mov (.t 12)), none⟩])) (.ops [⟨(some 8), (.mov (.t 4)), none⟩, ⟨(some 9), (.bin .add (.t 8) (.c (.int .i64 1))), none⟩, ⟨(some 4), (.mov (.t 9)), none⟩])))))) (.seq (.ops [⟨(some 13), (.mov (.t 3)), none⟩, ⟨(some 2), (.mov (.t 13)), none⟩]) .ret))))
theorem cc31 : ccode Tryd.prog (min Tryd.f31.ntmps pbase) (Tryd.f31.body.getD .skip) = some ac31 := by kernel_rfl
def ac32 : ACode := (.seq (.ops [⟨(some 2), (.mov (.c (.bool false))), none⟩]) (.seq (.seq (.ops [⟨(some 3), (.mov (.c (.int .i64 1))), none⟩]) (.block 0 (.loop (.seq (.seq (.ops [⟨(some 4), (.mov (.t 3)), none⟩, ⟨(some 5), (.mov (.t 0)), none⟩, ⟨(some 6), (.len (.t 5)), none⟩, ⟨(some 7), (.bin .lss (.t 4) (.t 6)), none⟩]) (.cond (.t 7) .skip (.exit 0))) (.seq (.block 1 (.seq (.tree (.take ⟨(some 10), (.mov (.t 0)), none⟩ (.take ⟨(some 11), (.mov (.t 3)), none⟩ (.take ⟨(some 12), (.bin .sub (.t 11) (.c (.int .i64 1))), none⟩ (.take ⟨(some 13), (.idx 1 (.t 10) (.t 12)), none⟩ (.take ⟨(some 14), (.ld none (.t 13)), none⟩ (.take ⟨(some 15), (.mov (.t 0)), none⟩ (.take ⟨(some 16), (.mov (.t 3)), none⟩ (.take ⟨(some 17), (.idx 1 (.t 15) (.t 16)), none⟩ (.take ⟨(some 18), (.ld none (.t 17)), none⟩ (.take ⟨(some 19), (.bin .geq (.t 14) (.t 18)), none⟩ .done))))))))))) (.cond (.t 19) (.seq (.ops [⟨(some 2), (.mov (.c (.bool false))), none⟩]) .ret) .skip))) (.ops [⟨(some 8), (.mov (.t 3)), none⟩, ⟨(some 9), (.bin .add (.t 8) (.c (.int .i64 1))), none⟩, ⟨(some 3), (.mov (.t 9)), none⟩])))))) (.seq (.ops [⟨(some 2), (.mov (.c (.bool true))), none⟩]) .ret)))
theorem cc32 : ccode Tryd.prog (min Tryd.f32.ntmps pbase) (Tryd.f32.body.getD .skip) = some ac32 := by kernel_rfl
def ac33 : ACode := (.seq (.ops [⟨(some 4), (.mov (.c (.bool false))), none⟩]) (.seq (.seq (.ops [⟨(some 7), (.mov (.t 0)), none⟩, ⟨(some 8), (.len (.t 7)), none⟩, ⟨(some 9), (.mov (.c (.int .i64 0))), none⟩]) (.block 0 (.loop (.seq (.ops [⟨(some 10), (.bin .lss (.t 9) (.t 8)), none⟩]) (.seq (.cond (.t 10) .skip (.exit 0)) (.seq (.block 1 (.seq (.ops [⟨(some 11), (.idx 1 (.t 7) (.t 9)), none⟩, ⟨(some 12), (.ld none (.t 11)), none⟩, ⟨(some 6), (.mov (.t 12)), none⟩]) (.seq (.ops [⟨(some 13), (.mov (.t 6)), none⟩, ⟨(some 14), (.mov (.t 1)), none⟩, ⟨(some 15), (.bin .eql (.t 13) (.t 14)), none⟩]) (.cond (.t 15) (.seq (.ops [⟨(some 4), (.mov (.c (.bool true))), none⟩]) .ret) .skip)))) (.ops [⟨(some 16), (.bin .add (.t 9) (.c (.int .i64 1))), none⟩, ⟨(some 9), (.mov (.t 16)), none⟩]))))))) (.seq (.ops [⟨(some 4), (.mov (.c (.bool false))), none⟩]) .ret)))
theorem cc33 : ccode Tryd.prog (min Tryd.f33.ntmps pbase) (Tryd.f33.body.getD .skip) = some ac33 := by kernel_rfl
def ac34 : ACode := (.seq (.ops [⟨(some 4), (.alloc [(.int .i64 0), (.map none)]), none⟩, ⟨(some 5), (.mov (.c (.bool false))), none⟩]) (.seq (.ops [⟨(some 9), (.mov (.t 0)), none⟩, ⟨(some 10), (.call 40 [(.t 9)]), none⟩, ⟨(some 8), (.mov (.t 10)), none⟩, ⟨(some 11), (.ext (.t 8) 0), none⟩, ⟨(some 12), (.ext (.t 8) 1), none⟩, ⟨(some 6), (.alloc [(.int .i64 0), (.map none)]), none⟩, ⟨none, (.st 2 (.t 6) (.t 11)), none⟩, ⟨(some 7), (.mov (.t 12)), none⟩]) (.seq (.seq (.ops [⟨(some 13), (.mov (.t 7)), none⟩, ⟨(some 14), (.not (.t 13)), none⟩, ⟨(some 15), (.mov (.t 14)), none⟩, ⟨(some 16), (.mov (.t 1)), (some (15, false))⟩, ⟨(some 17), (.call 56 [(.t 16)]), (some (15, false))⟩, ⟨(some 18), (.not (.t 17)), (some (15, false))⟩, ⟨(some 19), (.pick (.t 15) (.c (.bool true)) (.t 18)), none⟩, ⟨(some 20), (.mov (.t 19)), none⟩, ⟨(some 21), (.mov (.t 1)), (some (20, false))⟩, ⟨(some 22), (.len (.t 21)), (some (20, false))⟩, ⟨(some 23), (.fa 0 (.t 6)), (some (20, false))⟩, ⟨(some 24), (.ld none (.t 23)), (some (20, false))⟩, ⟨(some 25), (.bin .neq (.t 22) (.t 24)), (some (20, false))⟩, ⟨(some 26), (.pick (.t 20) (.c (.bool true)) (.t 25)), none⟩]) (.cond (.t 26) (.seq (.ops [⟨(some 27), (.pu (.bld [(.int .i64 0), (.map none)] []) []), none⟩, ⟨none, (.st 2 (.t 4) (.t 27)), none⟩, ⟨(some 5), (.mov (.c (.bool false))), none⟩]) .ret) .skip)) (.seq (.ops [⟨(some 28), (.ld (some 2) (.t 6)), none⟩, ⟨none, (.st 2 (.t 4) (.t 28)), none⟩, ⟨(some 5), (.mov (.c (.bool true))), none⟩]) .ret))))
theorem cc34 : ccode Tryd.prog (min Tryd.f34.ntmps pbase) (Tryd.f34.body.getD .skip) = some ac34 := by kernel_rfl
def ac35 : ACode := (.seq (.ops [⟨(some 4), (.nils 1), none⟩, ⟨(some 5), (.mov (.c (.bool false))), none⟩]) (.seq (.ops [⟨(some 6), (.mov (.c (.int .i64 0))), none⟩]) (.seq (.block 0 (.loop (.seq (.seq (.tree (.take ⟨(some 7), (.mov (.t 6)), none⟩ (.take ⟨(some 8), (.mov (.t 0)), none⟩ (.take ⟨(some 9), (.len (.t 8)), none⟩ (.take ⟨(some 10), (.bin .sub (.t 9) (.c (.int .i64 1))), none⟩ (.take ⟨(some 11), (.bin .lss (.t 7) (.t 10)), none⟩ (.take ⟨(some 12), (.mov (.t 11)), none⟩ (.take ⟨(some 13), (.mov (.t 1)), (some (12, true))⟩ (.take ⟨(some 14), (.mov (.t 0)), (some (12, true))⟩ (.take ⟨(some 15), (.mov (.t 6)), (some (12, true))⟩ (.take ⟨(some 16), (.cut 1 (.t 14) none (some (.t 15))), (some (12, true))⟩ (.take ⟨(some 17), (.mov (.t 0)), (some (12, true))⟩ (.take ⟨(some 18), (.mov (.t 6)), (some (12, true))⟩ (.take ⟨(some 19), (.idx 1 (.t 17) (.t 18)), (some (12, true))⟩ (.take ⟨(some 20), (.ld none (.t 19)), (some (12, true))⟩ (.take ⟨(some 21), (.callv (.t 13) [(.t 16), (.t 20)]), (some (12, true))⟩ (.take ⟨(some 22), (.pick (.t 12) (.t 21) (.c (.bool false))), none⟩ .done))))))))))))))))) (.cond (.t 22) .skip (.exit 0))) (.block 1 (.ops [⟨(some 23), (.mov (.t 6)), none⟩, ⟨(some 24), (.bin .add (.t 23) (.c (.int .i64 1))), none⟩, ⟨(some 6), (.mov (.t 24)), none⟩]))))) (.seq (.tree (.take ⟨(some 25), (.mov (.t 0)), none⟩ (.take ⟨(some 26), (.len (.t 25)), none⟩ (.take ⟨(some 27), (.mov (.t 0)), none⟩ (.take ⟨(some 28), (.mov (.t 6)), none⟩ (.take ⟨(some 29), (.cut 1 (.t 27) none (some (.t 28))), none⟩ (.take ⟨(some 30), (.mov (.t 0)), none⟩ (.take ⟨(some 31), (.mov (.t 6)), none⟩ (.take ⟨(some 32), (.idx 1 (.t 30) (.t 31)), none⟩ (.take ⟨(some 33), (.ld none (.t 32)), none⟩ (.take ⟨(some 34), (.bin .add (.t 33) (.c (.int .i64 1))), none⟩ (.take ⟨(some 35), (.mov (.t 1)), none⟩ (.take ⟨(some 36), (.call 57 [(.t 26), (.t 29), (.t 34), (.t 35)]), none⟩ (.take ⟨(some 37), (.ext (.t 36) 0), none⟩ (.take ⟨(some 38), (.ext (.t 36) 1), none⟩ (.take ⟨(some 4), (.mov (.t 37)), none⟩ (.take ⟨(some 5), (.mov (.t 38)), none⟩ .done))))))))))))))))) .ret))))
theorem cc35 : ccode Tryd.prog (min Tryd.f35.ntmps pbase) (Tryd.f35.body.getD .skip) = some ac35 := by kernel_rfl
def ac36 : ACode := (.seq (.ops [⟨(some 3), (.box 2 (.t 0)), none⟩, ⟨(some 6), (.mov (.c (.bool false))), none⟩]) (.seq (.ops [⟨(some 7), (.fa 1 (.t 3)), none⟩, ⟨(some 8), (.ld none (.t 7)), none⟩, ⟨(some 9), (.mov (.t 1)), none⟩, ⟨(some 10), (.len (.t 9)), none⟩, ⟨(some 11), (.mov (.t 2)), none⟩, ⟨(some 12), (.pu (.bld [(.int .i64 0), (.int .i64 0)] [(0, 1), (1, 1)]) [(.t 10), (.t 11)]), none⟩, ⟨(some 13), (.mgetk 54 (.bool false) false (.t 8) (.t 12)), none⟩, ⟨(some 14), (.not (.t 13)), none⟩, ⟨(some 15), (.mov (.t 14)), none⟩, ⟨(some 16), (.mov (.t 1)), (some (15, true))⟩, ⟨(some 17), (.mov (.t 2)), (some (15, true))⟩, ⟨(some 18), (.call 58 [(.t 16), (.t 17)]), (some (15, true))⟩, ⟨(some 19), (.not (.t 18)), (some (15, true))⟩, ⟨(some 20), (.pick (.t 15) (.t 19) (.c (.bool false))), none⟩, ⟨(some 6), (.mov (.t 20)), none⟩]) .ret))
theorem cc36 : ccode Tryd.prog (min Tryd.f36.ntmps pbase) (Tryd.f36.body.getD .skip) = some ac36 := by kernel_rfl
def ac37 : ACode := (.seq (.ops [⟨(some 4), (.mov (.c (.bool false))), none⟩]) (.seq (.ops [⟨(some 5), (.mov (.t 0)), none⟩, ⟨(some 6), (.call 42 [(.t 5)]), none⟩, ⟨(some 7), (.mov (.t 6)), none⟩, ⟨(some 8), (.mov (.t 1)), (some (7, true))⟩, ⟨(some 9), (.call 59 [(.t 8)]), (some (7, true))⟩, ⟨(some 10), (.pick (.t 7) (.t 9) (.c (.bool false))), none⟩, ⟨(some 11), (.mov (.t 10)), none⟩, ⟨(some 12), (.mov (.t 1)), (some (11, true))⟩, ⟨(some 13), (.len (.t 12)), (some (11, true))⟩, ⟨(some 14), (.mov (.t 0)), (some (11, true))⟩, ⟨(some 15), (.call 51 [(.t 14)]), (some (11, true))⟩, ⟨(some 16), (.bin .eql (.t 13) (.t 15)), (some (11, true))⟩, ⟨(some 17), (.pick (.t 11) (.t 16) (.c (.bool false))), none⟩, ⟨(some 4), (.mov (.t 17)), none⟩]) .ret))
theorem cc37 : ccode Tryd.prog (min Tryd.f37.ntmps pbase) (Tryd.f37.body.getD .skip) = some ac37 := by kernel_rfl
def ac38 : ACode := (.seq (.ops [⟨(some 6), (.nils 1), none⟩]) (.seq (.seq (.ops [⟨(some 12), (.mov (.t 1)), none⟩, ⟨(some 13), (.len (.t 12)), none⟩, ⟨(some 14), (.mov (.t 0)), none⟩, ⟨(some 15), (.call 51 [(.t 14)]), none⟩, ⟨(some 16), (.bin .eql (.t 13) (.t 15)), none⟩]) (.cond (.t 16) (.seq (.ops [⟨(some 17), (.mov (.t 1)), none⟩, ⟨(some 18), (.call 60 [(.t 17)]), none⟩, ⟨(some 6), (.mov (.t 18)), none⟩]) .ret) .skip)) (.seq (.ops [⟨(some 19), (.mov (.t 1)), none⟩, ⟨(some 20), (.len (.t 19)), none⟩, ⟨(some 7), (.mov (.t 20)), none⟩]) (.seq (.ops [⟨(some 8), (.mov (.c (.int .i64 0))), none⟩]) (.seq (.seq (.ops [⟨(some 21), (.mov (.t 2)), none⟩, ⟨(some 22), (.len (.t 21)), none⟩, ⟨(some 23), (.bin .gtr (.t 22) (.c (.int .i64 0))), none⟩]) (.cond (.t 23) (.ops [⟨(some 24), (.mov (.t 2)), none⟩, ⟨(some 25), (.mov (.t 7)), none⟩, ⟨(some 26), (.idx 1 (.t 24) (.t 25)), none⟩, ⟨(some 27), (.ld none (.t 26)), none⟩, ⟨(some 8), (.mov (.t 27)), none⟩]) .skip)) (.seq (.seq (.ops [⟨(some 28), (.mov (.t 8)), none⟩, ⟨(some 9), (.mov (.t 28)), none⟩]) (.block 0 (.loop (.seq (.seq (.ops [⟨(some 29), (.mov (.t 9)), none⟩, ⟨(some 30), (.mov (.t 0)), none⟩, ⟨(some 31), (.call 51 [(.t 30)]), none⟩, ⟨(some 32), (.bin .lss (.t 29) (.t 31)), none⟩]) (.cond (.t 32) .skip (.exit 0))) (.seq (.block 1 (.seq (.seq (.ops [⟨(some 35), (.mov (.t 0)), none⟩, ⟨(some 36), (.mov (.t 7)), none⟩, ⟨(some 37), (.mov (.t 9)), none⟩, ⟨(some 38), (.call 52 [(.t 35), (.t 36), (.t 37)]), none⟩, ⟨(some 39), (.mov (.t 38)), none⟩, ⟨(some 40), (.mov (.t 1)), (some (39, false))⟩, ⟨(some 41), (.mov (.t 9)), (some (39, false))⟩, ⟨(some 42), (.call 53 [(.t 40), (.t 41)]), (some (39, false))⟩, ⟨(some 43), (.pick (.t 39) (.c (.bool true)) (.t 42)), none⟩]) (.cond (.t 43) (.exit 1) .skip)) (.seq (.ops [⟨(some 44), (.mov (.t 2)), none⟩, ⟨(some 10), (.mov (.t 44)), none⟩]) (.seq (.seq (.ops [⟨(some 45), (.mov (.t 2)), none⟩, ⟨(some 46), (.len (.t 45)), none⟩, ⟨(some 47), (.bin .gtr (.t 46) (.c (.int .i64 0))), none⟩, ⟨(some 48), (.mov (.t 47)), none⟩, ⟨(some 49), (.mov (.t 9)), (some (48, true))⟩, ⟨(some 50), (.mov (.t 2)), (some (48, true))⟩, ⟨(some 51), (.mov (.t 7)), (some (48, true))⟩, ⟨(some 52), (.idx 1 (.t 50) (.t 51)), (some (48, true))⟩, ⟨(some 53), (.ld none (.t 52)), (some (48, true))⟩, ⟨(some 54), (.bin .gtr (.t 49) (.t 53)), (some (48, true))⟩, ⟨(some 55), (.pick (.t 48) (.t 54) (.c (.bool false))), none⟩]) (.cond (.t 55) (.ops [⟨(some 10), (.nils 1), none⟩]) .skip)) (.seq (.seq (.ops [⟨(some 56), (.mov (.t 10)), none⟩, ⟨(some 57), (.len (.t 56)), none⟩, ⟨(some 58), (.bin .gtr (.t 57) (.c (.int .i64 0))), none⟩, ⟨(some 59), (.mov (.t 58)), none⟩, ⟨(some 60), (.mov (.t 7)), (some (59, true))⟩, ⟨(some 61), (.mov (.t 10)), (some (59, true))⟩, ⟨(some 62), (.len (.t 61)), (some (59, true))⟩, ⟨(some 63), (.bin .sub (.t 62) (.c (.int .i64 1))), (some (59, true))⟩, ⟨(some 64), (.bin .eql (.t 60) (.t 63)), (some (59, true))⟩, ⟨(some 65), (.pick (.t 59) (.t 64) (.c (.bool false))), none⟩]) (.cond (.t 65) (.exit 1) .skip)) (.seq (.ops [⟨(some 66), (.mov (.t 0)), none⟩, ⟨(some 67), (.mov (.t 1)), none⟩, ⟨(some 68), (.call 60 [(.t 67)]), none⟩, ⟨(some 69), (.mov (.t 9)), none⟩, ⟨(some 70), (.bsl 1 1 [(.int .i64 0)] [(0, (.t 69))]), none⟩, ⟨(some 71), (.app 1 8 (.t 68) (.t 70)), none⟩, ⟨(some 72), (.mov (.t 10)), none⟩, ⟨(some 73), (.call 38 [(.t 66), (.t 71), (.t 72)]), none⟩, ⟨(some 11), (.mov (.t 73)), none⟩]) (.seq (.ops [⟨(some 74), (.mov (.t 11)), none⟩, ⟨(some 75), (.len (.t 74)), none⟩, ⟨(some 76), (.bin .gtr (.t 75) (.c (.int .i64 0))), none⟩]) (.cond (.t 76) (.seq (.ops [⟨(some 77), (.mov (.t 11)), none⟩, ⟨(some 6), (.mov (.t 77)), none⟩]) .ret) .skip)))))))) (.ops [⟨(some 33), (.mov (.t 9)), none⟩, ⟨(some 34), (.bin .add (.t 33) (.c (.int .i64 1))), none⟩, ⟨(some 9), (.mov (.t 34)), none⟩])))))) (.seq (.ops [⟨(some 6), (.nils 1), none⟩]) .ret)))))))
theorem cc38 : ccode Tryd.prog (min Tryd.f38.ntmps pbase) (Tryd.f38.body.getD .skip) = some ac38 := by kernel_rfl
def ac39 : ACode := (.seq (.ops [⟨(some 4), (.mov (.c (.int .i64 0))), none⟩]) (.seq (.ops [⟨(some 5), (.mov (.c (.int .i64 0))), none⟩]) (.seq (.seq (.ops [⟨(some 8), (.mov (.t 1)), none⟩, ⟨(some 9), (.len (.t 8)), none⟩, ⟨(some 10), (.mov (.c (.int .i64 0))), none⟩]) (.block 0 (.loop (.seq (.ops [⟨(some 11), (.bin .lss (.t 10) (.t 9)), none⟩]) (.seq (.cond (.t 11) .skip (.exit 0)) (.seq (.block 1 (.seq (.ops [⟨(some 12), (.mov (.t 10)), none⟩, ⟨(some 13), (.idx 1 (.t 8) (.t 10)), none⟩, ⟨(some 14), (.ld none (.t 13)), none⟩, ⟨(some 6), (.mov (.t 12)), none⟩, ⟨(some 7), (.mov (.t 14)), none⟩]) (.seq (.ops [⟨(some 15), (.mov (.t 0)), none⟩, ⟨(some 16), (.mov (.t 6)), none⟩, ⟨(some 17), (.mov (.t 7)), none⟩, ⟨(some 18), (.call 52 [(.t 15), (.t 16), (.t 17)]), none⟩]) (.cond (.t 18) (.ops [⟨(some 19), (.mov (.t 5)), none⟩, ⟨(some 20), (.bin .add (.t 19) (.c (.int .i64 1))), none⟩, ⟨(some 5), (.mov (.t 20)), none⟩]) .skip)))) (.ops [⟨(some 21), (.bin .add (.t 10) (.c (.int .i64 1))), none⟩, ⟨(some 10), (.mov (.t 21)), none⟩]))))))) (.seq (.ops [⟨(some 22), (.mov (.t 5)), none⟩, ⟨(some 4), (.mov (.t 22)), none⟩]) .ret))))
theorem cc39 : ccode Tryd.prog (min Tryd.f39.ntmps pbase) (Tryd.f39.body.getD .skip) = some ac39 := by kernel_rfl
def ac40 : ACode := (.seq (.ops [⟨(some 2), (.alloc [(.int .i64 0), (.map none)]), none⟩, ⟨(some 3), (.mov (.c (.bool false))), none⟩]) (.seq (.ops [⟨(some 9), (.mov (.t 0)), none⟩, ⟨(some 10), (.call 61 [(.t 9), (.c (.string (.mk #[47]))), (.c (.int .i64 9))]), none⟩, ⟨(some 4), (.mov (.t 10)), none⟩]) (.seq (.seq (.ops [⟨(some 11), (.mov (.t 4)), none⟩, ⟨(some 12), (.len (.t 11)), none⟩, ⟨(some 13), (.call 62 [(.t 12)]), none⟩, ⟨(some 14), (.not (.t 13)), none⟩]) (.cond (.t 14) (.seq (.ops [⟨(some 15), (.pu (.bld [(.int .i64 0), (.map none)] []) []), none⟩, ⟨none, (.st 2 (.t 2) (.t 15)), none⟩, ⟨(some 3), (.mov (.c (.bool false))), none⟩]) .ret) .skip)) (.seq (.ops [⟨(some 16), (.mov (.t 4)), none⟩, ⟨(some 17), (.len (.t 16)), none⟩, ⟨(some 18), .mmk, none⟩, ⟨(some 19), (.pu (.bld [(.int .i64 0), (.map none)] [(0, 1), (1, 1)]) [(.t 17), (.t 18)]), none⟩, ⟨(some 5), (.alloc [(.int .i64 0), (.map none)]), none⟩, ⟨none, (.st 2 (.t 5) (.t 19)), none⟩]) (.seq (.seq (.ops [⟨(some 20), (.mov (.t 4)), none⟩, ⟨(some 21), (.len (.t 20)), none⟩, ⟨(some 22), (.mov (.c (.int .i64 0))), none⟩]) (.block 0 (.loop (.seq (.ops [⟨(some 23), (.bin .lss (.t 22) (.t 21)), none⟩]) (.seq (.cond (.t 23) .skip (.exit 0)) (.seq (.block 1 (.seq (.ops [⟨(some 24), (.mov (.t 22)), none⟩, ⟨(some 25), (.idx 1 (.t 20) (.t 22)), none⟩, ⟨(some 26), (.ld none (.t 25)), none⟩, ⟨(some 6), (.mov (.t 24)), none⟩, ⟨(some 7), (.mov (.t 26)), none⟩]) (.seq (.seq (.ops [⟨(some 27), (.mov (.t 7)), none⟩, ⟨(some 28), (.slen (.t 27)), none⟩, ⟨(some 29), (.fa 0 (.t 5)), none⟩, ⟨(some 30), (.ld none (.t 29)), none⟩, ⟨(some 31), (.bin .neq (.t 28) (.t 30)), none⟩]) (.cond (.t 31) (.seq (.ops [⟨(some 32), (.pu (.bld [(.int .i64 0), (.map none)] []) []), none⟩, ⟨none, (.st 2 (.t 2) (.t 32)), none⟩, ⟨(some 3), (.mov (.c (.bool false))), none⟩]) .ret) .skip)) (.seq (.ops [⟨(some 33), (.mov (.t 7)), none⟩, ⟨(some 34), (.slen (.t 33)), none⟩, ⟨(some 35), (.mov (.c (.int .i64 0))), none⟩]) (.block 2 (.loop (.seq (.ops [⟨(some 36), (.bin .lss (.t 35) (.t 34)), none⟩]) (.seq (.cond (.t 36) .skip (.exit 2)) (.seq (.block 3 (.seq (.ops [⟨(some 37), (.mov (.t 35)), none⟩, ⟨(some 8), (.mov (.t 37)), none⟩]) (.seq (.ops [⟨(some 38), (.mov (.t 7)), none⟩, ⟨(some 39), (.mov (.t 8)), none⟩, ⟨(some 40), (.pu .six [(.t 38), (.t 39)]), none⟩]) (.block 4 (.seq (.ops [⟨(some 43), (.bin .eql (.t 40) (.c (.int .u8 46))), none⟩, ⟨(some 42), (.mov (.t 43)), none⟩]) (.cond (.t 42) .skip (.seq (.ops [⟨(some 45), (.bin .eql (.t 40) (.c (.int .u8 35))), none⟩, ⟨(some 44), (.mov (.t 45)), none⟩]) (.cond (.t 44) (.ops [⟨(some 46), (.fa 1 (.t 5)), none⟩, ⟨(some 47), (.ld none (.t 46)), none⟩, ⟨(some 48), (.mov (.t 6)), none⟩, ⟨(some 49), (.mov (.t 8)), none⟩, ⟨(some 50), (.pu (.bld [(.int .i64 0), (.int .i64 0)] [(0, 1), (1, 1)]) [(.t 48), (.t 49)]), none⟩, ⟨none, (.mputk 54 (.t 47) (.t 50) (.c (.bool true))), none⟩]) (.seq (.ops [⟨(some 41), (.pu (.bld [(.int .i64 0), (.map none)] []) []), none⟩, ⟨none, (.st 2 (.t 2) (.t 41)), none⟩, ⟨(some 3), (.mov (.c (.bool false))), none⟩]) .ret))))))))) (.ops [⟨(some 51), (.bin .add (.t 35) (.c (.int .i64 1))), none⟩, ⟨(some 35), (.mov (.t 51)), none⟩])))))))))) (.ops [⟨(some 52), (.bin .add (.t 22) (.c (.int .i64 1))), none⟩, ⟨(some 22), (.mov (.t 52)), none⟩]))))))) (.seq (.ops [⟨(some 53), (.ld (some 2) (.t 5)), none⟩, ⟨none, (.st 2 (.t 2) (.t 53)), none⟩, ⟨(some 3), (.mov (.c (.bool true))), none⟩]) .ret))))))
theorem cc40 : ccode Tryd.prog (min Tryd.f40.ntmps pbase) (Tryd.f40.body.getD .skip) = some ac40 := by kernel_rfl
def ac41 : ACode := (.seq (.ops [⟨(some 4), (.nils 1), none⟩, ⟨(some 5), (.mov (.c (.bool false))), none⟩]) (.seq (.ops [⟨(some 6), (.mov (.t 0)), none⟩, ⟨(some 7), (.mov (.t 1)), none⟩, ⟨(some 8), (.call 57 [(.t 6), (.c (.slice none 0 0)), (.c (.int .i64 0)), (.t 7)]), none⟩, ⟨(some 9), (.ext (.t 8) 0), none⟩, ⟨(some 10), (.ext (.t 8) 1), none⟩, ⟨(some 4), (.mov (.t 9)), none⟩, ⟨(some 5), (.mov (.t 10)), none⟩]) .ret))
theorem cc41 : ccode Tryd.prog (min Tryd.f41.ntmps pbase) (Tryd.f41.body.getD .skip) = some ac41 := by kernel_rfl
def ac42 : ACode := (.seq (.ops [⟨(some 2), (.mov (.c (.bool false))), none⟩]) (.seq (.seq (.ops [⟨(some 7), (.mov (.t 0)), none⟩, ⟨(some 8), (.slen (.t 7)), none⟩, ⟨(some 9), (.bin .gtr (.t 8) (.c (.int .i64 72))), none⟩]) (.cond (.t 9) (.seq (.ops [⟨(some 2), (.mov (.c (.bool false))), none⟩]) .ret) .skip)) (.seq (.ops [⟨(some 10), (.mov (.t 0)), none⟩, ⟨(some 11), (.call 63 [(.t 10), (.c (.int .u8 47))]), none⟩, ⟨(some 3), (.mov (.t 11)), none⟩]) (.seq (.seq (.ops [⟨(some 12), (.mov (.t 3)), none⟩, ⟨(some 13), (.len (.t 12)), none⟩, ⟨(some 14), (.call 64 [(.t 13), (.c (.int .i64 1)), (.c (.int .i64 8))]), none⟩, ⟨(some 15), (.not (.t 14)), none⟩]) (.cond (.t 15) (.seq (.ops [⟨(some 2), (.mov (.c (.bool false))), none⟩]) .ret) .skip)) (.seq (.seq (.ops [⟨(some 16), (.mov (.t 3)), none⟩, ⟨(some 17), (.len (.t 16)), none⟩, ⟨(some 18), (.mov (.c (.int .i64 0))), none⟩]) (.block 0 (.loop (.seq (.ops [⟨(some 19), (.bin .lss (.t 18) (.t 17)), none⟩]) (.seq (.cond (.t 19) .skip (.exit 0)) (.seq (.block 1 (.seq (.ops [⟨(some 20), (.idx 1 (.t 16) (.t 18)), none⟩, ⟨(some 21), (.ld none (.t 20)), none⟩, ⟨(some 5), (.mov (.t 21)), none⟩]) (.seq (.seq (.ops [⟨(some 22), (.mov (.t 5)), none⟩, ⟨(some 23), (.slen (.t 22)), none⟩, ⟨(some 24), (.mov (.t 3)), none⟩, ⟨(some 25), (.len (.t 24)), none⟩, ⟨(some 26), (.bin .neq (.t 23) (.t 25)), none⟩]) (.cond (.t 26) (.seq (.ops [⟨(some 2), (.mov (.c (.bool false))), none⟩]) .ret) .skip)) (.seq (.ops [⟨(some 6), (.mov (.c (.int .i64 0))), none⟩]) (.block 2 (.loop (.seq (.seq (.ops [⟨(some 27), (.mov (.t 6)), none⟩, ⟨(some 28), (.mov (.t 5)), none⟩, ⟨(some 29), (.slen (.t 28)), none⟩, ⟨(some 30), (.bin .lss (.t 27) (.t 29)), none⟩]) (.cond (.t 30) .skip (.exit 2))) (.seq (.block 3 (.seq (.ops [⟨(some 33), (.mov (.t 5)), none⟩, ⟨(some 34), (.mov (.t 6)), none⟩, ⟨(some 35), (.pu .six [(.t 33), (.t 34)]), none⟩, ⟨(some 36), (.bin .neq (.t 35) (.c (.int .u8 46))), none⟩, ⟨(some 37), (.mov (.t 36)), none⟩, ⟨(some 38), (.mov (.t 5)), (some (37, true))⟩, ⟨(some 39), (.mov (.t 6)), (some (37, true))⟩, ⟨(some 40), (.pu .six [(.t 38), (.t 39)]), (some (37, true))⟩, ⟨(some 41), (.bin .neq (.t 40) (.c (.int .u8 35))), (some (37, true))⟩, ⟨(some 42), (.pick (.t 37) (.t 41) (.c (.bool false))), none⟩]) (.cond (.t 42) (.seq (.ops [⟨(some 2), (.mov (.c (.bool false))), none⟩]) .ret) .skip))) (.ops [⟨(some 31), (.mov (.t 6)), none⟩, ⟨(some 32), (.bin .add (.t 31) (.c (.int .i64 1))), none⟩, ⟨(some 6), (.mov (.t 32)), none⟩]))))))))) (.ops [⟨(some 43), (.bin .add (.t 18) (.c (.int .i64 1))), none⟩, ⟨(some 18), (.mov (.t 43)), none⟩]))))))) (.seq (.ops [⟨(some 2), (.mov (.c (.bool true))), none⟩]) .ret))))))
theorem cc42 : ccode Tryd.prog (min Tryd.f42.ntmps pbase) (Tryd.f42.body.getD .skip) = some ac42 := by kernel_rfl
def ac43 : ACode := (.seq (.ops [⟨(some 1), (.box 2 (.t 0)), none⟩, ⟨(some 2), (.nils 1), none⟩]) (.seq (.ops [⟨(some 5), (.ld (some 2) (.t 1)), none⟩, ⟨(some 6), (.call 45 [(.t 5)]), none⟩, ⟨(some 3), (.mov (.t 6)), none⟩]) (.seq (.seq (.ops [⟨(some 7), (.mov (.t 3)), none⟩, ⟨(some 8), (.len (.t 7)), none⟩, ⟨(some 9), (.mov (.c (.int .i64 0))), none⟩]) (.block 0 (.loop (.seq (.ops [⟨(some 10), (.bin .lss (.t 9) (.t 8)), none⟩]) (.seq (.cond (.t 10) .skip (.exit 0)) (.seq (.block 1 (.seq (.ops [⟨(some 11), (.mov (.t 9)), none⟩, ⟨(some 4), (.mov (.t 11)), none⟩]) (.tree (.take ⟨(some 12), (.mov (.t 3)), none⟩ (.take ⟨(some 13), (.mov (.t 4)), none⟩ (.take ⟨(some 14), (.idx 1 (.t 12) (.t 13)), none⟩ (.take ⟨(some 15), (.ld none (.t 14)), none⟩ (.take ⟨(some 16), (.fa 0 (.t 1)), none⟩ (.take ⟨(some 17), (.ld none (.t 16)), none⟩ (.take ⟨(some 18), (.mov (.t 4)), none⟩ (.take ⟨(some 19), (.bin .sub (.t 17) (.t 18)), none⟩ (.take ⟨(some 20), (.call 65 [(.t 19)]), none⟩ (.take ⟨(some 21), (.bin .mul (.t 15) (.t 20)), none⟩ (.take ⟨(some 22), (.idx 1 (.t 12) (.t 13)), none⟩ (.take ⟨none, (.st 1 (.t 22) (.t 21)), none⟩ .done))))))))))))))) (.ops [⟨(some 23), (.bin .add (.t 9) (.c (.int .i64 1))), none⟩, ⟨(some 9), (.mov (.t 23)), none⟩]))))))) (.seq (.ops [⟨(some 24), (.mov (.t 3)), none⟩, ⟨(some 25), (.call 66 [(.t 24)]), none⟩, ⟨(some 2), (.mov (.t 25)), none⟩]) .ret))))
theorem cc43 : ccode Tryd.prog (min Tryd.f43.ntmps pbase) (Tryd.f43.body.getD .skip) = some ac43 := by kernel_rfl
def ac44 : ACode := (.seq (.ops [⟨(some 2), (.nils 1), none⟩]) (.seq (.ops [⟨(some 9), (.mov (.t 0)), none⟩, ⟨(some 10), (.call 51 [(.t 9)]), none⟩, ⟨(some 3), (.mov (.t 10)), none⟩]) (.seq (.ops [⟨(some 11), (.mov (.t 0)), none⟩, ⟨(some 12), (.call 46 [(.t 11), (.c (.int .i64 0)), (.c (.int .i64 0))]), none⟩, ⟨(some 4), (.mov (.t 12)), none⟩]) (.seq (.ops [⟨(some 13), (.mov (.t 3)), none⟩, ⟨(some 14), (.bin .add (.t 13) (.c (.int .i64 1))), none⟩, ⟨(some 15), (.mk 1 8 [(.int .i64 0)] (.t 14) (.t 14)), none⟩, ⟨(some 5), (.mov (.t 15)), none⟩]) (.seq (.seq (.ops [⟨(some 16), (.mov (.t 3)), none⟩, ⟨(some 6), (.mov (.t 16)), none⟩]) (.block 0 (.loop (.seq (.seq (.ops [⟨(some 17), (.mov (.t 6)), none⟩, ⟨(some 18), (.bin .geq (.t 17) (.c (.int .i64 0))), none⟩]) (.cond (.t 18) .skip (.exit 0))) (.seq (.block 1 (.seq (.tree (.take ⟨(some 21), (.mov (.t 4)), none⟩ (.take ⟨(some 22), (.mov (.t 6)), none⟩ (.take ⟨(some 23), (.idx 1 (.t 21) (.t 22)), none⟩ (.take ⟨(some 24), (.ld none (.t 23)), none⟩ (.take ⟨(some 25), (.mov (.t 3)), none⟩ (.take ⟨(some 26), (.mov (.t 6)), none⟩ (.take ⟨(some 27), (.bin .sub (.t 25) (.t 26)), none⟩ (.take ⟨(some 28), (.call 67 [(.t 27)]), none⟩ (.take ⟨(some 29), (.bin .mul (.t 24) (.t 28)), none⟩ (.take ⟨(some 7), (.mov (.t 29)), none⟩ .done))))))))))) (.seq (.seq (.ops [⟨(some 30), (.mov (.t 6)), none⟩, ⟨(some 31), (.bin .add (.t 30) (.c (.int .i64 1))), none⟩, ⟨(some 8), (.mov (.t 31)), none⟩]) (.block 2 (.loop (.seq (.seq (.ops [⟨(some 32), (.mov (.t 8)), none⟩, ⟨(some 33), (.mov (.t 3)), none⟩, ⟨(some 34), (.bin .leq (.t 32) (.t 33)), none⟩]) (.cond (.t 34) .skip (.exit 2))) (.seq (.block 3 (.tree (.take ⟨(some 37), (.mov (.t 7)), none⟩ (.take ⟨(some 38), (.mov (.t 8)), none⟩ (.take ⟨(some 39), (.mov (.t 6)), none⟩ (.take ⟨(some 40), (.call 68 [(.t 38), (.t 39)]), none⟩ (.take ⟨(some 41), (.mov (.t 5)), none⟩ (.take ⟨(some 42), (.mov (.t 8)), none⟩ (.take ⟨(some 43), (.idx 1 (.t 41) (.t 42)), none⟩ (.take ⟨(some 44), (.ld none (.t 43)), none⟩ (.take ⟨(some 45), (.bin .mul (.t 40) (.t 44)), none⟩ (.take ⟨(some 46), (.bin .sub (.t 37) (.t 45)), none⟩ (.take ⟨(some 7), (.mov (.t 46)), none⟩ .done))))))))))))) (.ops [⟨(some 35), (.mov (.t 8)), none⟩, ⟨(some 36), (.bin .add (.t 35) (.c (.int .i64 1))), none⟩, ⟨(some 8), (.mov (.t 36)), none⟩])))))) (.ops [⟨(some 47), (.mov (.t 5)), none⟩, ⟨(some 48), (.mov (.t 6)), none⟩, ⟨(some 49), (.mov (.t 7)), none⟩, ⟨(some 50), (.idx 1 (.t 47) (.t 48)), none⟩, ⟨none, (.st 1 (.t 50) (.t 49)), none⟩])))) (.ops [⟨(some 19), (.mov (.t 6)), none⟩, ⟨(some 20), (.bin .sub (.t 19) (.c (.int .i64 1))), none⟩, ⟨(some 6), (.mov (.t 20)), none⟩])))))) (.seq (.ops [⟨(some 51), (.mov (.t 5)), none⟩, ⟨(some 2), (.mov (.t 51)), none⟩]) .ret))))))
theorem cc44 : ccode Tryd.prog (min Tryd.f44.ntmps pbase) (Tryd.f44.body.getD .skip) = some ac44 := by kernel_rfl
def ac45 : ACode := (.seq (.ops [⟨(some 1), (.box 2 (.t 0)), none⟩, ⟨(some 2), (.nils 1), none⟩]) (.scope (.seq (.ops [⟨(some 14), .mmk, none⟩, ⟨none, (.mput .u16 (.t 14) (.c (.int .u16 0)) (.c (.int .i64 1))), none⟩, ⟨(some 15), (.mov (.t 14)), none⟩, ⟨(some 3), (.mov (.t 15)), none⟩]) (.seq (.ops [⟨(some 16), (.fa 1 (.t 1)), none⟩, ⟨(some 17), (.ld none (.t 16)), none⟩, ⟨(some 18), (.call 69 [(.t 17)]), none⟩, ⟨(some 4), (.mov (.t 18)), none⟩]) (.seq (.label 0) (.seq (.seq (.ops [⟨(some 19), (.mov (.t 4)), none⟩, ⟨(some 20), (.mrg (.t 19)), none⟩]) (.block 0 (.loop (.seq (.ops [⟨(some 21), (.mnx (.t 20)), none⟩, ⟨(some 22), (.ext (.t 21) 0), none⟩]) (.seq (.cond (.t 22) .skip (.exit 0)) (.block 1 (.seq (.ops [⟨(some 23), (.ment (.t 20)), none⟩, ⟨(some 24), (.ext (.t 23) 0), none⟩, ⟨(some 5), (.alloc [(.int .i64 0), (.int .i64 0)]), none⟩, ⟨none, (.st 2 (.t 5) (.t 24)), none⟩]) (.seq (.ops [⟨(some 25), (.mov (.t 3)), none⟩, ⟨(some 26), (.call 70 [(.t 25)]), none⟩, ⟨(some 6), (.mov (.t 26)), none⟩]) (.seq (.seq (.ops [⟨(some 27), (.fa 0 (.t 1)), none⟩, ⟨(some 28), (.ld none (.t 27)), none⟩, ⟨(some 29), (.mov (.c (.int .i64 0))), none⟩]) (.block 2 (.loop (.seq (.ops [⟨(some 30), (.bin .lss (.t 29) (.t 28)), none⟩]) (.seq (.cond (.t 30) .skip (.exit 2)) (.seq (.block 3 (.seq (.ops [⟨(some 31), (.mov (.t 29)), none⟩, ⟨(some 7), (.mov (.t 31)), none⟩]) (.seq (.ops [⟨(some 32), (.fa 0 (.t 5)), none⟩, ⟨(some 33), (.ld none (.t 32)), none⟩, ⟨(some 34), (.mov (.t 7)), none⟩, ⟨(some 35), (.pu (.bld [(.int .i64 0), (.int .i64 0)] [(0, 1), (1, 1)]) [(.t 33), (.t 34)]), none⟩, ⟨(some 8), (.alloc [(.int .i64 0), (.int .i64 0)]), none⟩, ⟨none, (.st 2 (.t 8) (.t 35)), none⟩]) (.seq (.seq (.ops [⟨(some 36), (.mov (.t 4)), none⟩, ⟨(some 37), (.ld (some 2) (.t 8)), none⟩, ⟨(some 38), (.mgetk 54 (.bool false) false (.t 36) (.t 37)), none⟩, ⟨(some 39), (.not (.t 38)), none⟩]) (.cond (.t 39) (.exit 3) .skip)) (.seq (.ops [⟨(some 40), (.mov (.t 4)), none⟩, ⟨(some 41), (.ld (some 2) (.t 8)), none⟩, ⟨none, (.mdel 54 (.t 40) (.t 41)), none⟩]) (.seq (.ops [⟨(some 42), (.mov (.t 3)), none⟩, ⟨(some 43), (.mrg (.t 42)), none⟩]) (.block 4 (.loop (.seq (.ops [⟨(some 44), (.mnx (.t 43)), none⟩, ⟨(some 45), (.ext (.t 44) 0), none⟩]) (.seq (.cond (.t 45) .skip (.exit 4)) (.block 5 (.seq (.ops [⟨(some 46), (.ment (.t 43)), none⟩, ⟨(some 47), (.ext (.t 46) 0), none⟩, ⟨(some 48), (.ext (.t 46) 1), none⟩, ⟨(some 9), (.mov (.t 47)), none⟩, ⟨(some 10), (.mov (.t 48)), none⟩]) (.seq (.ops [⟨(some 49), (.mov (.t 9)), none⟩, ⟨(some 50), (.mov (.t 7)), none⟩, ⟨(some 51), (.call 71 [(.t 49), (.t 50)]), none⟩, ⟨(some 52), (.not (.t 51)), none⟩]) (.cond (.t 52) (.ops [⟨(some 53), (.mov (.t 6)), none⟩, ⟨(some 54), (.mov (.t 9)), none⟩, ⟨(some 55), (.mov (.t 7)), none⟩, ⟨(some 56), (.call 72 [(.t 54), (.t 55)]), none⟩, ⟨(some 57), (.mget .u16 (.int .i64 0) false (.t 53) (.t 56)), none⟩, ⟨(some 58), (.mov (.t 10)), none⟩, ⟨(some 59), (.bin .add (.t 57) (.t 58)), none⟩, ⟨none, (.mput .u16 (.t 53) (.t 56) (.t 59)), none⟩]) .skip)))))))))))))) (.ops [⟨(some 60), (.bin .add (.t 29) (.c (.int .i64 1))), none⟩, ⟨(some 29), (.mov (.t 60)), none⟩]))))))) (.seq (.ops [⟨(some 61), (.mov (.t 6)), none⟩, ⟨(some 3), (.mov (.t 61)), none⟩]) (.goto 0))))))))))) (.seq (.ops [⟨(some 62), (.fa 0 (.t 1)), none⟩, ⟨(some 63), (.ld none (.t 62)), none⟩, ⟨(some 64), (.bin .add (.t 63) (.c (.int .i64 1))), none⟩, ⟨(some 65), (.mk 1 8 [(.int .i64 0)] (.t 64) (.t 64)), none⟩, ⟨(some 11), (.mov (.t 65)), none⟩]) (.seq (.seq (.ops [⟨(some 66), (.mov (.t 3)), none⟩, ⟨(some 67), (.mrg (.t 66)), none⟩]) (.block 6 (.loop (.seq (.ops [⟨(some 68), (.mnx (.t 67)), none⟩, ⟨(some 69), (.ext (.t 68) 0), none⟩]) (.seq (.cond (.t 69) .skip (.exit 6)) (.block 7 (.seq (.ops [⟨(some 70), (.ment (.t 67)), none⟩, ⟨(some 71), (.ext (.t 70) 0), none⟩, ⟨(some 72), (.ext (.t 70) 1), none⟩, ⟨(some 12), (.mov (.t 71)), none⟩, ⟨(some 13), (.mov (.t 72)), none⟩]) (.ops [⟨(some 73), (.mov (.t 11)), none⟩, ⟨(some 74), (.mov (.t 12)), none⟩, ⟨(some 75), (.call 73 [(.t 74)]), none⟩, ⟨(some 76), (.idx 1 (.t 73) (.t 75)), none⟩, ⟨(some 77), (.ld none (.t 76)), none⟩, ⟨(some 78), (.mov (.t 13)), none⟩, ⟨(some 79), (.bin .add (.t 77) (.t 78)), none⟩, ⟨(some 80), (.idx 1 (.t 73) (.t 75)), none⟩, ⟨none, (.st 1 (.t 80) (.t 79)), none⟩])))))))) (.seq (.ops [⟨(some 81), (.mov (.t 11)), none⟩, ⟨(some 2), (.mov (.t 81)), none⟩]) .ret)))))))))
theorem cc45 : ccode Tryd.prog (min Tryd.f45.ntmps pbase) (Tryd.f45.body.getD .skip) = some ac45 := by kernel_rfl
def ac46 : ACode := (.seq (.ops [⟨(some 6), (.nils 1), none⟩]) (.seq (.ops [⟨(some 14), (.mov (.t 0)), none⟩, ⟨(some 15), (.call 51 [(.t 14)]), none⟩, ⟨(some 7), (.mov (.t 15)), none⟩]) (.seq (.ops [⟨(some 16), (.mov (.t 7)), none⟩, ⟨(some 17), (.bin .add (.t 16) (.c (.int .i64 1))), none⟩, ⟨(some 18), (.mk 1 8 [(.int .i64 0)] (.t 17) (.t 17)), none⟩, ⟨(some 8), (.mov (.t 18)), none⟩]) (.seq (.seq (.ops [⟨(some 19), (.mov (.t 1)), none⟩, ⟨(some 20), (.mov (.t 7)), none⟩, ⟨(some 21), (.bin .eql (.t 19) (.t 20)), none⟩]) (.cond (.t 21) (.seq (.ops [⟨(some 22), (.mov (.t 8)), none⟩, ⟨(some 23), (.idx 1 (.t 22) (.c (.int .i64 0))), none⟩, ⟨none, (.st 1 (.t 23) (.c (.int .i64 1))), none⟩]) (.seq (.ops [⟨(some 24), (.mov (.t 8)), none⟩, ⟨(some 6), (.mov (.t 24)), none⟩]) .ret)) .skip)) (.seq (.seq (.ops [⟨(some 25), (.mov (.t 0)), none⟩, ⟨(some 26), (.mov (.t 1)), none⟩, ⟨(some 27), (.bin .add (.t 26) (.c (.int .i64 1))), none⟩, ⟨(some 28), (.mov (.t 2)), none⟩, ⟨(some 29), (.call 46 [(.t 25), (.t 27), (.t 28)]), none⟩, ⟨(some 30), (.len (.t 29)), none⟩, ⟨(some 31), (.mov (.c (.int .i64 0))), none⟩]) (.block 0 (.loop (.seq (.ops [⟨(some 32), (.bin .lss (.t 31) (.t 30)), none⟩]) (.seq (.cond (.t 32) .skip (.exit 0)) (.seq (.block 1 (.seq (.ops [⟨(some 33), (.mov (.t 31)), none⟩, ⟨(some 34), (.idx 1 (.t 29) (.t 31)), none⟩, ⟨(some 35), (.ld none (.t 34)), none⟩, ⟨(some 9), (.mov (.t 33)), none⟩, ⟨(some 10), (.mov (.t 35)), none⟩]) (.ops [⟨(some 36), (.mov (.t 8)), none⟩, ⟨(some 37), (.mov (.t 9)), none⟩, ⟨(some 38), (.idx 1 (.t 36) (.t 37)), none⟩, ⟨(some 39), (.ld none (.t 38)), none⟩, ⟨(some 40), (.mov (.t 10)), none⟩, ⟨(some 41), (.bin .add (.t 39) (.t 40)), none⟩, ⟨(some 42), (.idx 1 (.t 36) (.t 37)), none⟩, ⟨none, (.st 1 (.t 42) (.t 41)), none⟩]))) (.ops [⟨(some 43), (.bin .add (.t 31) (.c (.int .i64 1))), none⟩, ⟨(some 31), (.mov (.t 43)), none⟩]))))))) (.seq (.seq (.ops [⟨(some 11), (.mov (.c (.int .i64 0))), none⟩]) (.block 2 (.loop (.seq (.seq (.ops [⟨(some 44), (.mov (.t 11)), none⟩, ⟨(some 45), (.mov (.t 7)), none⟩, ⟨(some 46), (.bin .lss (.t 44) (.t 45)), none⟩]) (.cond (.t 46) .skip (.exit 2))) (.seq (.block 3 (.seq (.ops [⟨(some 49), (.mov (.t 2)), none⟩, ⟨(some 50), (.mov (.t 11)), none⟩, ⟨(some 51), (.bin .shr (.t 49) (.t 50)), none⟩, ⟨(some 52), (.bin .and (.t 51) (.c (.int .i64 1))), none⟩, ⟨(some 53), (.bin .eql (.t 52) (.c (.int .i64 0))), none⟩, ⟨(some 54), (.mov (.t 53)), none⟩, ⟨(some 55), (.mov (.t 0)), (some (54, true))⟩, ⟨(some 56), (.mov (.t 1)), (some (54, true))⟩, ⟨(some 57), (.mov (.t 11)), (some (54, true))⟩, ⟨(some 58), (.call 52 [(.t 55), (.t 56), (.t 57)]), (some (54, true))⟩, ⟨(some 59), (.pick (.t 54) (.t 58) (.c (.bool false))), none⟩]) (.cond (.t 59) (.seq (.ops [⟨(some 60), (.mov (.t 0)), none⟩, ⟨(some 61), (.mov (.t 1)), none⟩, ⟨(some 62), (.bin .add (.t 61) (.c (.int .i64 1))), none⟩, ⟨(some 63), (.mov (.t 2)), none⟩, ⟨(some 64), (.mov (.t 11)), none⟩, ⟨(some 65), (.bin .shl (.c (.int .i64 1)) (.t 64)), none⟩, ⟨(some 66), (.bin .or (.t 63) (.t 65)), none⟩, ⟨(some 67), (.call 46 [(.t 60), (.t 62), (.t 66)]), none⟩, ⟨(some 68), (.len (.t 67)), none⟩, ⟨(some 69), (.mov (.c (.int .i64 0))), none⟩]) (.block 4 (.loop (.seq (.ops [⟨(some 70), (.bin .lss (.t 69) (.t 68)), none⟩]) (.seq (.cond (.t 70) .skip (.exit 4)) (.seq (.block 5 (.seq (.ops [⟨(some 71), (.mov (.t 69)), none⟩, ⟨(some 72), (.idx 1 (.t 67) (.t 69)), none⟩, ⟨(some 73), (.ld none (.t 72)), none⟩, ⟨(some 12), (.mov (.t 71)), none⟩, ⟨(some 13), (.mov (.t 73)), none⟩]) (.seq (.ops [⟨(some 74), (.mov (.t 13)), none⟩, ⟨(some 75), (.bin .gtr (.t 74) (.c (.int .i64 0))), none⟩]) (.cond (.t 75) (.ops [⟨(some 76), (.mov (.t 8)), none⟩, ⟨(some 77), (.mov (.t 12)), none⟩, ⟨(some 78), (.bin .add (.t 77) (.c (.int .i64 1))), none⟩, ⟨(some 79), (.idx 1 (.t 76) (.t 78)), none⟩, ⟨(some 80), (.ld none (.t 79)), none⟩, ⟨(some 81), (.mov (.t 13)), none⟩, ⟨(some 82), (.bin .add (.t 80) (.t 81)), none⟩, ⟨(some 83), (.idx 1 (.t 76) (.t 78)), none⟩, ⟨none, (.st 1 (.t 83) (.t 82)), none⟩]) .skip)))) (.ops [⟨(some 84), (.bin .add (.t 69) (.c (.int .i64 1))), none⟩, ⟨(some 69), (.mov (.t 84)), none⟩]))))))) .skip))) (.ops [⟨(some 47), (.mov (.t 11)), none⟩, ⟨(some 48), (.bin .add (.t 47) (.c (.int .i64 1))), none⟩, ⟨(some 11), (.mov (.t 48)), none⟩])))))) (.seq (.ops [⟨(some 85), (.mov (.t 8)), none⟩, ⟨(some 6), (.mov (.t 85)), none⟩]) .ret)))))))
theorem cc46 : ccode Tryd.prog (min Tryd.f46.ntmps pbase) (Tryd.f46.body.getD .skip) = some ac46 := by kernel_rfl
def ac47 : ACode := (.seq (.ops [⟨(some 2), (.mov (.c (.int .i64 0))), none⟩]) (.seq (.ops [⟨(some 3), (.mov (.c (.int .i64 0))), none⟩]) (.seq (.seq (.ops [⟨(some 6), (.mov (.t 0)), none⟩, ⟨(some 7), (.call 46 [(.t 6), (.c (.int .i64 0)), (.c (.int .i64 0))]), none⟩, ⟨(some 8), (.len (.t 7)), none⟩, ⟨(some 9), (.mov (.c (.int .i64 0))), none⟩]) (.block 0 (.loop (.seq (.ops [⟨(some 10), (.bin .lss (.t 9) (.t 8)), none⟩]) (.seq (.cond (.t 10) .skip (.exit 0)) (.seq (.block 1 (.seq (.ops [⟨(some 11), (.mov (.t 9)), none⟩, ⟨(some 12), (.idx 1 (.t 7) (.t 9)), none⟩, ⟨(some 13), (.ld none (.t 12)), none⟩, ⟨(some 4), (.mov (.t 11)), none⟩, ⟨(some 5), (.mov (.t 13)), none⟩]) (.seq (.ops [⟨(some 14), (.mov (.t 5)), none⟩, ⟨(some 15), (.bin .gtr (.t 14) (.c (.int .i64 0))), none⟩]) (.cond (.t 15) (.ops [⟨(some 16), (.mov (.t 4)), none⟩, ⟨(some 3), (.mov (.t 16)), none⟩]) .skip)))) (.ops [⟨(some 17), (.bin .add (.t 9) (.c (.int .i64 1))), none⟩, ⟨(some 9), (.mov (.t 17)), none⟩]))))))) (.seq (.ops [⟨(some 18), (.mov (.t 3)), none⟩, ⟨(some 2), (.mov (.t 18)), none⟩]) .ret))))
theorem cc47 : ccode Tryd.prog (min Tryd.f47.ntmps pbase) (Tryd.f47.body.getD .skip) = some ac47 := by kernel_rfl
def ac48 : ACode := (.seq (.ops [⟨(some 1), (.box 2 (.t 0)), none⟩, ⟨(some 2), (.mov (.c (.int .u16 0))), none⟩]) (.seq (.ops [⟨(some 3), (.mov (.c (.int .u16 0))), none⟩]) (.seq (.seq (.ops [⟨(some 6), (.fa 0 (.t 1)), none⟩, ⟨(some 7), (.ld none (.t 6)), none⟩, ⟨(some 8), (.bin .shl (.c (.int .u16 1)) (.t 7)), none⟩, ⟨(some 9), (.mov (.c (.int .u16 0))), none⟩]) (.block 0 (.loop (.seq (.ops [⟨(some 10), (.bin .lss (.t 9) (.t 8)), none⟩]) (.seq (.cond (.t 10) .skip (.exit 0)) (.seq (.block 1 (.seq (.ops [⟨(some 11), (.mov (.t 9)), none⟩, ⟨(some 4), (.mov (.t 11)), none⟩]) (.seq (.tree (.take ⟨(some 12), (.ld (some 2) (.t 1)), none⟩ (.take ⟨(some 13), (.mov (.t 4)), none⟩ (.take ⟨(some 14), (.call 76 [(.t 12), (.t 13)]), none⟩ (.take ⟨(some 15), (.ld (some 2) (.t 1)), none⟩ (.take ⟨(some 16), (.mov (.t 3)), none⟩ (.take ⟨(some 17), (.call 76 [(.t 15), (.t 16)]), none⟩ (.take ⟨(some 18), (.call 75 [(.t 14), (.t 17)]), none⟩ (.two ⟨(some 19), (.mov (.t 4)), none⟩ (.two ⟨(some 20), (.call 49 [(.t 19)]), none⟩ (.take ⟨(some 21), (.mov (.t 3)), none⟩ (.take ⟨(some 22), (.call 49 [(.t 21)]), none⟩ (.take ⟨(some 23), (.call 77 [(.t 20), (.t 22)]), none⟩ (.take ⟨(some 24), (.bsl 1 2 [(.int .i64 0)] [(0, (.t 18)), (1, (.t 23))]), none⟩ (.take ⟨(some 25), (.call 74 [(.t 24)]), none⟩ (.take ⟨(some 5), (.mov (.t 25)), none⟩ .done)))))) ⟨(some 21), (.mov (.t 3)), none⟩ (.take ⟨(some 20), (.call 49 [(.t 19)]), none⟩ (.take ⟨(some 22), (.call 49 [(.t 21)]), none⟩ (.take ⟨(some 23), (.call 77 [(.t 20), (.t 22)]), none⟩ (.take ⟨(some 24), (.bsl 1 2 [(.int .i64 0)] [(0, (.t 18)), (1, (.t 23))]), none⟩ (.take ⟨(some 25), (.call 74 [(.t 24)]), none⟩ (.take ⟨(some 5), (.mov (.t 25)), none⟩ .done))))))) ⟨(some 21), (.mov (.t 3)), none⟩ (.take ⟨(some 19), (.mov (.t 4)), none⟩ (.take ⟨(some 20), (.call 49 [(.t 19)]), none⟩ (.take ⟨(some 22), (.call 49 [(.t 21)]), none⟩ (.take ⟨(some 23), (.call 77 [(.t 20), (.t 22)]), none⟩ (.take ⟨(some 24), (.bsl 1 2 [(.int .i64 0)] [(0, (.t 18)), (1, (.t 23))]), none⟩ (.take ⟨(some 25), (.call 74 [(.t 24)]), none⟩ (.take ⟨(some 5), (.mov (.t 25)), none⟩ .done)))))))))))))))) (.seq (.ops [⟨(some 26), (.mov (.t 5)), none⟩, ⟨(some 27), (.bin .lss (.t 26) (.c (.int .i64 0))), none⟩]) (.cond (.t 27) (.ops [⟨(some 28), (.mov (.t 4)), none⟩, ⟨(some 3), (.mov (.t 28)), none⟩]) .skip))))) (.ops [⟨(some 29), (.bin .add (.t 9) (.c (.int .u16 1))), none⟩, ⟨(some 9), (.mov (.t 29)), none⟩]))))))) (.seq (.ops [⟨(some 30), (.mov (.t 3)), none⟩, ⟨(some 2), (.mov (.t 30)), none⟩]) .ret))))
theorem cc48 : ccode Tryd.prog (min Tryd.f48.ntmps pbase) (Tryd.f48.body.getD .skip) = some ac48 := by kernel_rfl
def ac49 : ACode := (.seq (.ops [⟨(some 2), (.nils 1), none⟩]) (.seq (.ops [⟨(some 3), (.nils 1), none⟩]) (.seq (.seq (.ops [⟨(some 5), (.mov (.c (.int .i64 0))), none⟩]) (.block 0 (.loop (.seq (.ops [⟨(some 6), (.bin .lss (.t 5) (.c (.int .i64 12))), none⟩]) (.seq (.cond (.t 6) .skip (.exit 0)) (.seq (.block 1 (.seq (.ops [⟨(some 7), (.mov (.t 5)), none⟩, ⟨(some 4), (.mov (.t 7)), none⟩]) (.seq (.ops [⟨(some 8), (.mov (.t 0)), none⟩, ⟨(some 9), (.mov (.t 4)), none⟩, ⟨(some 10), (.call 71 [(.t 8), (.t 9)]), none⟩]) (.cond (.t 10) (.ops [⟨(some 11), (.mov (.t 3)), none⟩, ⟨(some 12), (.mov (.t 4)), none⟩, ⟨(some 13), (.bsl 1 1 [(.int .i64 0)] [(0, (.t 12))]), none⟩, ⟨(some 14), (.app 1 8 (.t 11) (.t 13)), none⟩, ⟨(some 3), (.mov (.t 14)), none⟩]) .skip)))) (.ops [⟨(some 15), (.bin .add (.t 5) (.c (.int .i64 1))), none⟩, ⟨(some 5), (.mov (.t 15)), none⟩]))))))) (.seq (.ops [⟨(some 16), (.mov (.t 3)), none⟩, ⟨(some 2), (.mov (.t 16)), none⟩]) .ret))))
theorem cc49 : ccode Tryd.prog (min Tryd.f49.ntmps pbase) (Tryd.f49.body.getD .skip) = some ac49 := by kernel_rfl
def ac50 : ACode := (.seq (.ops [⟨(some 2), (.box 2 (.t 0)), none⟩, ⟨(some 4), (.mov (.c (.int .u16 0))), none⟩]) (.seq (.ops [⟨(some 5), (.mov (.c (.int .u16 0))), none⟩]) (.seq (.seq (.ops [⟨(some 7), (.fa 1 (.t 2)), none⟩, ⟨(some 8), (.ld none (.t 7)), none⟩, ⟨(some 9), (.mrg (.t 8)), none⟩]) (.block 0 (.loop (.seq (.ops [⟨(some 10), (.mnx (.t 9)), none⟩, ⟨(some 11), (.ext (.t 10) 0), none⟩]) (.seq (.cond (.t 11) .skip (.exit 0)) (.block 1 (.seq (.ops [⟨(some 12), (.ment (.t 9)), none⟩, ⟨(some 13), (.ext (.t 12) 0), none⟩, ⟨(some 6), (.alloc [(.int .i64 0), (.int .i64 0)]), none⟩, ⟨none, (.st 2 (.t 6) (.t 13)), none⟩]) (.seq (.ops [⟨(some 14), (.mov (.t 1)), none⟩, ⟨(some 15), (.fa 0 (.t 6)), none⟩, ⟨(some 16), (.ld none (.t 15)), none⟩, ⟨(some 17), (.call 71 [(.t 14), (.t 16)]), none⟩, ⟨(some 18), (.not (.t 17)), none⟩]) (.cond (.t 18) (.ops [⟨(some 19), (.mov (.t 5)), none⟩, ⟨(some 20), (.fa 1 (.t 6)), none⟩, ⟨(some 21), (.ld none (.t 20)), none⟩, ⟨(some 22), (.call 72 [(.t 19), (.t 21)]), none⟩, ⟨(some 5), (.mov (.t 22)), none⟩]) .skip))))))))) (.seq (.ops [⟨(some 23), (.mov (.t 5)), none⟩, ⟨(some 4), (.mov (.t 23)), none⟩]) .ret))))
theorem cc50 : ccode Tryd.prog (min Tryd.f50.ntmps pbase) (Tryd.f50.body.getD .skip) = some ac50 := by kernel_rfl
def ac51 : ACode := (.seq (.ops [⟨(some 2), (.mov (.c (.int .i64 0))), none⟩]) (.seq (.ops [⟨(some 3), (.mov (.t 0)), none⟩, ⟨(some 4), (.call 63 [(.t 3), (.c (.int .u8 47))]), none⟩, ⟨(some 5), (.len (.t 4)), none⟩, ⟨(some 2), (.mov (.t 5)), none⟩]) .ret))
theorem cc51 : ccode Tryd.prog (min Tryd.f51.ntmps pbase) (Tryd.f51.body.getD .skip) = some ac51 := by kernel_rfl
def ac52 : ACode := (.seq (.ops [⟨(some 6), (.mov (.c (.bool false))), none⟩]) (.seq (.ops [⟨(some 7), (.mov (.t 0)), none⟩, ⟨(some 8), (.mov (.t 1)), none⟩, ⟨(some 9), (.mov (.t 0)), none⟩, ⟨(some 10), (.call 51 [(.t 9)]), none⟩, ⟨(some 11), (.bin .add (.t 10) (.c (.int .i64 1))), none⟩, ⟨(some 12), (.bin .mul (.t 8) (.t 11)), none⟩, ⟨(some 13), (.mov (.t 2)), none⟩, ⟨(some 14), (.bin .add (.t 12) (.t 13)), none⟩, ⟨(some 15), (.pu .six [(.t 7), (.t 14)]), none⟩, ⟨(some 16), (.bin .eql (.t 15) (.c (.int .u8 35))), none⟩, ⟨(some 6), (.mov (.t 16)), none⟩]) .ret))
theorem cc52 : ccode Tryd.prog (min Tryd.f52.ntmps pbase) (Tryd.f52.body.getD .skip) = some ac52 := by kernel_rfl
def ac53 : ACode := (.seq (.ops [⟨(some 4), (.mov (.c (.bool false))), none⟩]) (.seq (.seq (.ops [⟨(some 7), (.mov (.t 0)), none⟩, ⟨(some 8), (.len (.t 7)), none⟩, ⟨(some 9), (.mov (.c (.int .i64 0))), none⟩]) (.block 0 (.loop (.seq (.ops [⟨(some 10), (.bin .lss (.t 9) (.t 8)), none⟩]) (.seq (.cond (.t 10) .skip (.exit 0)) (.seq (.block 1 (.seq (.ops [⟨(some 11), (.idx 1 (.t 7) (.t 9)), none⟩, ⟨(some 12), (.ld none (.t 11)), none⟩, ⟨(some 6), (.mov (.t 12)), none⟩]) (.seq (.ops [⟨(some 13), (.mov (.t 6)), none⟩, ⟨(some 14), (.mov (.t 1)), none⟩, ⟨(some 15), (.bin .eql (.t 13) (.t 14)), none⟩]) (.cond (.t 15) (.seq (.ops [⟨(some 4), (.mov (.c (.bool true))), none⟩]) .ret) .skip)))) (.ops [⟨(some 16), (.bin .add (.t 9) (.c (.int .i64 1))), none⟩, ⟨(some 9), (.mov (.t 16)), none⟩]))))))) (.seq (.ops [⟨(some 4), (.mov (.c (.bool false))), none⟩]) .ret)))
theorem cc53 : ccode Tryd.prog (min Tryd.f53.ntmps pbase) (Tryd.f53.body.getD .skip) = some ac53 := by kernel_rfl
def ac54 : ACode := (.seq (.ops [⟨(some 4), (.mov (.c (.bool false))), none⟩]) (.seq (.seq (.ops [⟨(some 5), (.mov (.c (.int .i64 0))), none⟩]) (.block 0 (.loop (.seq (.seq (.ops [⟨(some 6), (.mov (.t 5)), none⟩, ⟨(some 7), (.mov (.t 0)), none⟩, ⟨(some 8), (.len (.t 7)), none⟩, ⟨(some 9), (.bin .lss (.t 6) (.t 8)), none⟩, ⟨(some 10), (.mov (.t 9)), none⟩, ⟨(some 11), (.mov (.t 5)), (some (10, true))⟩, ⟨(some 12), (.mov (.t 1)), (some (10, true))⟩, ⟨(some 13), (.len (.t 12)), (some (10, true))⟩, ⟨(some 14), (.bin .lss (.t 11) (.t 13)), (some (10, true))⟩, ⟨(some 15), (.pick (.t 10) (.t 14) (.c (.bool false))), none⟩]) (.cond (.t 15) .skip (.exit 0))) (.seq (.block 1 (.seq (.tree (.take ⟨(some 18), (.mov (.t 0)), none⟩ (.take ⟨(some 19), (.mov (.t 5)), none⟩ (.take ⟨(some 20), (.idx 1 (.t 18) (.t 19)), none⟩ (.take ⟨(some 21), (.ld none (.t 20)), none⟩ (.take ⟨(some 22), (.mov (.t 1)), none⟩ (.take ⟨(some 23), (.mov (.t 5)), none⟩ (.take ⟨(some 24), (.idx 1 (.t 22) (.t 23)), none⟩ (.take ⟨(some 25), (.ld none (.t 24)), none⟩ (.take ⟨(some 26), (.bin .neq (.t 21) (.t 25)), none⟩ .done)))))))))) (.cond (.t 26) (.seq (.tree (.take ⟨(some 27), (.mov (.t 0)), none⟩ (.take ⟨(some 28), (.mov (.t 5)), none⟩ (.take ⟨(some 29), (.idx 1 (.t 27) (.t 28)), none⟩ (.take ⟨(some 30), (.ld none (.t 29)), none⟩ (.take ⟨(some 31), (.mov (.t 1)), none⟩ (.take ⟨(some 32), (.mov (.t 5)), none⟩ (.take ⟨(some 33), (.idx 1 (.t 31) (.t 32)), none⟩ (.take ⟨(some 34), (.ld none (.t 33)), none⟩ (.take ⟨(some 35), (.bin .lss (.t 30) (.t 34)), none⟩ (.take ⟨(some 4), (.mov (.t 35)), none⟩ .done))))))))))) .ret) .skip))) (.ops [⟨(some 16), (.mov (.t 5)), none⟩, ⟨(some 17), (.bin .add (.t 16) (.c (.int .i64 1))), none⟩, ⟨(some 5), (.mov (.t 17)), none⟩])))))) (.seq (.ops [⟨(some 36), (.mov (.t 0)), none⟩, ⟨(some 37), (.len (.t 36)), none⟩, ⟨(some 38), (.mov (.t 1)), none⟩, ⟨(some 39), (.len (.t 38)), none⟩, ⟨(some 40), (.bin .lss (.t 37) (.t 39)), none⟩, ⟨(some 4), (.mov (.t 40)), none⟩]) .ret)))
theorem cc54 : ccode Tryd.prog (min Tryd.f54.ntmps pbase) (Tryd.f54.body.getD .skip) = some ac54 := by kernel_rfl
def ac55 : ACode := (.seq (.ops [⟨(some 2), (.nils 1), none⟩]) (.seq (.ops [⟨(some 3), (.nils 1), none⟩]) (.seq (.seq (.ops [⟨(some 4), (.mov (.c (.int .i64 0))), none⟩]) (.block 0 (.loop (.seq (.seq (.ops [⟨(some 6), (.mov (.t 4)), none⟩, ⟨(some 7), (.mov (.t 0)), none⟩, ⟨(some 8), (.call 51 [(.t 7)]), none⟩, ⟨(some 9), (.bin .lss (.t 6) (.t 8)), none⟩]) (.cond (.t 9) .skip (.exit 0))) (.seq (.block 1 (.seq (.ops [⟨(some 5), (.mov (.c (.int .i64 0))), none⟩]) (.block 2 (.loop (.seq (.seq (.ops [⟨(some 12), (.mov (.t 5)), none⟩, ⟨(some 13), (.mov (.t 0)), none⟩, ⟨(some 14), (.call 51 [(.t 13)]), none⟩, ⟨(some 15), (.bin .lss (.t 12) (.t 14)), none⟩]) (.cond (.t 15) .skip (.exit 2))) (.seq (.block 3 (.seq (.ops [⟨(some 18), (.mov (.t 0)), none⟩, ⟨(some 19), (.mov (.t 4)), none⟩, ⟨(some 20), (.mov (.t 5)), none⟩, ⟨(some 21), (.call 52 [(.t 18), (.t 19), (.t 20)]), none⟩]) (.cond (.t 21) (.ops [⟨(some 22), (.mov (.t 3)), none⟩, ⟨(some 23), (.mov (.t 4)), none⟩, ⟨(some 24), (.mov (.t 5)), none⟩, ⟨(some 25), (.bsl 1 2 [(.int .i64 0)] [(0, (.t 23)), (1, (.t 24))]), none⟩, ⟨(some 26), (.bsl 1 1 [(.slice none 0 0)] [(0, (.t 25))]), none⟩, ⟨(some 27), (.app 1 24 (.t 22) (.t 26)), none⟩, ⟨(some 3), (.mov (.t 27)), none⟩]) .skip))) (.ops [⟨(some 16), (.mov (.t 5)), none⟩, ⟨(some 17), (.bin .add (.t 16) (.c (.int .i64 1))), none⟩, ⟨(some 5), (.mov (.t 17)), none⟩]))))))) (.ops [⟨(some 10), (.mov (.t 4)), none⟩, ⟨(some 11), (.bin .add (.t 10) (.c (.int .i64 1))), none⟩, ⟨(some 4), (.mov (.t 11)), none⟩])))))) (.seq (.ops [⟨(some 28), (.mov (.t 3)), none⟩, ⟨(some 2), (.mov (.t 28)), none⟩]) .ret))))
theorem cc55 : ccode Tryd.prog (min Tryd.f55.ntmps pbase) (Tryd.f55.body.getD .skip) = some ac55 := by kernel_rfl
def ac56 : ACode := (.seq (.ops [⟨(some 2), (.mov (.c (.bool false))), none⟩]) (.seq (.ops [⟨(some 3), (.mov (.t 0)), none⟩, ⟨(some 4), (.len (.t 3)), none⟩, ⟨(some 5), (.call 78 [(.t 4)]), none⟩, ⟨(some 6), (.mov (.t 5)), none⟩, ⟨(some 7), (.mov (.t 0)), (some (6, true))⟩, ⟨(some 8), (.mov (.t 0)), (some (6, true))⟩, ⟨(some 9), (.len (.t 8)), (some (6, true))⟩, ⟨(some 10), (.call 79 [(.t 7), (.t 9)]), (some (6, true))⟩, ⟨(some 11), (.pick (.t 6) (.t 10) (.c (.bool false))), none⟩, ⟨(some 2), (.mov (.t 11)), none⟩]) .ret))
theorem cc56 : ccode Tryd.prog (min Tryd.f56.ntmps pbase) (Tryd.f56.body.getD .skip) = some ac56 := by kernel_rfl
def ac57 : ACode := (.seq (.ops [⟨(some 8), (.nils 1), none⟩, ⟨(some 9), (.mov (.c (.bool false))), none⟩]) (.scope (.seq (.ops [⟨(some 13), (.mov (.t 1)), none⟩, ⟨(some 14), (.call 80 [(.t 13)]), none⟩, ⟨(some 10), (.mov (.t 14)), none⟩]) (.seq (.ops [⟨(some 15), (.mov (.t 2)), none⟩, ⟨(some 11), (.mov (.t 15)), none⟩]) (.seq (.label 0) (.seq (.block 0 (.loop (.block 1 (.block 2 (.seq (.ops [⟨(some 28), (.mov (.t 10)), none⟩, ⟨(some 29), (.len (.t 28)), none⟩, ⟨(some 30), (.mov (.t 0)), none⟩, ⟨(some 31), (.bin .eql (.t 29) (.t 30)), none⟩, ⟨(some 27), (.mov (.t 31)), none⟩]) (.cond (.t 27) (.exit 0) (.seq (.ops [⟨(some 33), (.mov (.t 11)), none⟩, ⟨(some 34), (.mov (.t 0)), none⟩, ⟨(some 35), (.bin .lss (.t 33) (.t 34)), none⟩, ⟨(some 36), (.mov (.t 35)), none⟩, ⟨(some 37), (.mov (.t 3)), (some (36, true))⟩, ⟨(some 38), (.mov (.t 10)), (some (36, true))⟩, ⟨(some 39), (.mov (.t 11)), (some (36, true))⟩, ⟨(some 40), (.callv (.t 37) [(.t 38), (.t 39)]), (some (36, true))⟩, ⟨(some 41), (.pick (.t 36) (.t 40) (.c (.bool false))), none⟩, ⟨(some 32), (.mov (.t 41)), none⟩]) (.cond (.t 32) (.seq (.ops [⟨(some 42), (.mov (.t 10)), none⟩, ⟨(some 43), (.mov (.t 11)), none⟩, ⟨(some 44), (.bsl 1 1 [(.int .i64 0)] [(0, (.t 43))]), none⟩, ⟨(some 45), (.app 1 8 (.t 42) (.t 44)), none⟩, ⟨(some 10), (.mov (.t 45)), none⟩]) (.ops [⟨(some 11), (.mov (.c (.int .i64 0))), none⟩])) (.seq (.ops [⟨(some 47), (.mov (.t 11)), none⟩, ⟨(some 48), (.mov (.t 0)), none⟩, ⟨(some 49), (.bin .lss (.t 47) (.t 48)), none⟩, ⟨(some 46), (.mov (.t 49)), none⟩]) (.cond (.t 46) (.ops [⟨(some 50), (.mov (.t 11)), none⟩, ⟨(some 51), (.bin .add (.t 50) (.c (.int .i64 1))), none⟩, ⟨(some 11), (.mov (.t 51)), none⟩]) (.seq (.ops [⟨(some 53), (.mov (.t 10)), none⟩, ⟨(some 54), (.len (.t 53)), none⟩, ⟨(some 55), (.bin .eql (.t 54) (.c (.int .i64 0))), none⟩, ⟨(some 52), (.mov (.t 55)), none⟩]) (.cond (.t 52) (.seq (.ops [⟨(some 8), (.nils 1), none⟩, ⟨(some 9), (.mov (.c (.bool false))), none⟩]) .ret) (.seq (.ops [⟨(some 16), (.mov (.t 10)), none⟩, ⟨(some 17), (.len (.t 16)), none⟩, ⟨(some 18), (.bin .sub (.t 17) (.c (.int .i64 1))), none⟩, ⟨(some 12), (.mov (.t 18)), none⟩]) (.seq (.ops [⟨(some 19), (.mov (.t 10)), none⟩, ⟨(some 20), (.mov (.t 12)), none⟩, ⟨(some 21), (.idx 1 (.t 19) (.t 20)), none⟩, ⟨(some 22), (.ld none (.t 21)), none⟩, ⟨(some 23), (.bin .add (.t 22) (.c (.int .i64 1))), none⟩, ⟨(some 11), (.mov (.t 23)), none⟩]) (.ops [⟨(some 24), (.mov (.t 10)), none⟩, ⟨(some 25), (.mov (.t 12)), none⟩, ⟨(some 26), (.cut 1 (.t 24) none (some (.t 25))), none⟩, ⟨(some 10), (.mov (.t 26)), none⟩]))))))))))))))) (.seq (.ops [⟨(some 56), (.mov (.t 10)), none⟩, ⟨(some 8), (.mov (.t 56)), none⟩, ⟨(some 9), (.mov (.c (.bool true))), none⟩]) .ret)))))))
theorem cc57 : ccode Tryd.prog (min Tryd.f57.ntmps pbase) (Tryd.f57.body.getD .skip) = some ac57 := by kernel_rfl
def ac58 : ACode := (.seq (.ops [⟨(some 4), (.mov (.c (.bool false))), none⟩]) (.seq (.ops [⟨(some 5), (.mov (.t 0)), none⟩, ⟨(some 6), (.mov (.t 1)), none⟩, ⟨(some 7), (.call 81 [(.t 5), (.t 6)]), none⟩, ⟨(some 8), (.bin .geq (.t 7) (.c (.int .i64 0))), none⟩, ⟨(some 4), (.mov (.t 8)), none⟩]) .ret))
theorem cc58 : ccode Tryd.prog (min Tryd.f58.ntmps pbase) (Tryd.f58.body.getD .skip) = some ac58 := by kernel_rfl
def ac59 : ACode := (.seq (.ops [⟨(some 2), (.mov (.c (.bool false))), none⟩]) (.seq (.seq (.ops [⟨(some 5), (.mov (.t 0)), none⟩, ⟨(some 6), (.len (.t 5)), none⟩, ⟨(some 7), (.call 64 [(.t 6), (.c (.int .i64 1)), (.c (.int .i64 12))]), none⟩, ⟨(some 8), (.not (.t 7)), none⟩, ⟨(some 9), (.mov (.t 8)), none⟩, ⟨(some 10), (.mov (.t 0)), (some (9, false))⟩, ⟨(some 11), (.mov (.t 0)), (some (9, false))⟩, ⟨(some 12), (.len (.t 11)), (some (9, false))⟩, ⟨(some 13), (.bin .sub (.t 12) (.c (.int .i64 1))), (some (9, false))⟩, ⟨(some 14), (.call 82 [(.t 10), (.c (.int .i64 0)), (.t 13)]), (some (9, false))⟩, ⟨(some 15), (.not (.t 14)), (some (9, false))⟩, ⟨(some 16), (.pick (.t 9) (.c (.bool true)) (.t 15)), none⟩]) (.cond (.t 16) (.seq (.ops [⟨(some 2), (.mov (.c (.bool false))), none⟩]) .ret) .skip)) (.seq (.seq (.ops [⟨(some 17), (.mov (.t 0)), none⟩, ⟨(some 18), (.len (.t 17)), none⟩, ⟨(some 19), (.mov (.c (.int .i64 0))), none⟩]) (.block 0 (.loop (.seq (.ops [⟨(some 20), (.bin .lss (.t 19) (.t 18)), none⟩]) (.seq (.cond (.t 20) .skip (.exit 0)) (.seq (.block 1 (.seq (.ops [⟨(some 21), (.mov (.t 19)), none⟩, ⟨(some 22), (.idx 1 (.t 17) (.t 19)), none⟩, ⟨(some 23), (.ld none (.t 22)), none⟩, ⟨(some 3), (.mov (.t 21)), none⟩, ⟨(some 4), (.mov (.t 23)), none⟩]) (.seq (.ops [⟨(some 24), (.mov (.t 0)), none⟩, ⟨(some 25), (.mov (.t 3)), none⟩, ⟨(some 26), (.cut 1 (.t 24) none (some (.t 25))), none⟩, ⟨(some 27), (.mov (.t 4)), none⟩, ⟨(some 28), (.call 53 [(.t 26), (.t 27)]), none⟩]) (.cond (.t 28) (.seq (.ops [⟨(some 2), (.mov (.c (.bool false))), none⟩]) .ret) .skip)))) (.ops [⟨(some 29), (.bin .add (.t 19) (.c (.int .i64 1))), none⟩, ⟨(some 19), (.mov (.t 29)), none⟩]))))))) (.seq (.ops [⟨(some 2), (.mov (.c (.bool true))), none⟩]) .ret))))
theorem cc59 : ccode Tryd.prog (min Tryd.f59.ntmps pbase) (Tryd.f59.body.getD .skip) = some ac59 := by kernel_rfl
def ac60 : ACode := (.seq (.ops [⟨(some 2), (.nils 1), none⟩]) (.seq (.ops [⟨(some 3), (.bsl 1 0 [(.int .i64 0)] []), none⟩, ⟨(some 4), (.mov (.t 0)), none⟩, ⟨(some 5), (.app 1 8 (.t 3) (.t 4)), none⟩, ⟨(some 2), (.mov (.t 5)), none⟩]) .ret))
theorem cc60 : ccode Tryd.prog (min Tryd.f60.ntmps pbase) (Tryd.f60.body.getD .skip) = some ac60 := by kernel_rfl
def ac61 : ACode := (.seq (.ops [⟨(some 6), (.nils 1), none⟩]) (.seq (.ops [⟨(some 7), (.mov (.t 0)), none⟩, ⟨(some 8), (.mov (.t 1)), none⟩, ⟨(some 9), (.mov (.t 2)), none⟩, ⟨(some 10), (.call 83 [(.t 7), (.t 8), (.c (.int .i64 0)), (.t 9)]), none⟩, ⟨(some 6), (.mov (.t 10)), none⟩]) .ret))
theorem cc61 : ccode Tryd.prog (min Tryd.f61.ntmps pbase) (Tryd.f61.body.getD .skip) = some ac61 := by kernel_rfl
def ac62 : ACode := (.seq (.ops [⟨(some 2), (.mov (.c (.bool false))), none⟩]) (.seq (.ops [⟨(some 3), (.mov (.t 0)), none⟩, ⟨(some 4), (.bin .geq (.t 3) (.c (.int .i64 1))), none⟩, ⟨(some 5), (.mov (.t 4)), none⟩, ⟨(some 6), (.mov (.t 0)), (some (5, true))⟩, ⟨(some 7), (.bin .leq (.t 6) (.c (.int .i64 8))), (some (5, true))⟩, ⟨(some 8), (.pick (.t 5) (.t 7) (.c (.bool false))), none⟩, ⟨(some 2), (.mov (.t 8)), none⟩]) .ret))
theorem cc62 : ccode Tryd.prog (min Tryd.f62.ntmps pbase) (Tryd.f62.body.getD .skip) = some ac62 := by kernel_rfl
def ac63 : ACode := (.seq (.ops [⟨(some 4), (.nils 1), none⟩]) (.seq (.ops [⟨(some 5), (.nils 1), none⟩]) (.seq (.ops [⟨(some 6), (.mov (.c (.int .i64 0))), none⟩]) (.seq (.seq (.ops [⟨(some 7), (.mov (.c (.int .i64 0))), none⟩]) (.block 0 (.loop (.seq (.seq (.ops [⟨(some 8), (.mov (.t 7)), none⟩, ⟨(some 9), (.mov (.t 0)), none⟩, ⟨(some 10), (.slen (.t 9)), none⟩, ⟨(some 11), (.bin .lss (.t 8) (.t 10)), none⟩]) (.cond (.t 11) .skip (.exit 0))) (.seq (.block 1 (.seq (.ops [⟨(some 14), (.mov (.t 0)), none⟩, ⟨(some 15), (.mov (.t 7)), none⟩, ⟨(some 16), (.pu .six [(.t 14), (.t 15)]), none⟩, ⟨(some 17), (.mov (.t 1)), none⟩, ⟨(some 18), (.bin .eql (.t 16) (.t 17)), none⟩]) (.cond (.t 18) (.seq (.ops [⟨(some 19), (.mov (.t 5)), none⟩, ⟨(some 20), (.mov (.t 0)), none⟩, ⟨(some 21), (.mov (.t 6)), none⟩, ⟨(some 22), (.mov (.t 7)), none⟩, ⟨(some 23), (.pu (.scut true true) [(.t 20), (.t 21), (.t 22)]), none⟩, ⟨(some 24), (.bsl 1 1 [(.string (.mk #[]))] [(0, (.t 23))]), none⟩, ⟨(some 25), (.app 1 16 (.t 19) (.t 24)), none⟩, ⟨(some 5), (.mov (.t 25)), none⟩]) (.ops [⟨(some 26), (.mov (.t 7)), none⟩, ⟨(some 27), (.bin .add (.t 26) (.c (.int .i64 1))), none⟩, ⟨(some 6), (.mov (.t 27)), none⟩])) .skip))) (.ops [⟨(some 12), (.mov (.t 7)), none⟩, ⟨(some 13), (.bin .add (.t 12) (.c (.int .i64 1))), none⟩, ⟨(some 7), (.mov (.t 13)), none⟩])))))) (.seq (.ops [⟨(some 28), (.mov (.t 5)), none⟩, ⟨(some 29), (.mov (.t 0)), none⟩, ⟨(some 30), (.mov (.t 6)), none⟩, ⟨(some 31), (.pu (.scut true false) [(.t 29), (.t 30)]), none⟩, ⟨(some 32), (.bsl 1 1 [(.string (.mk #[]))] [(0, (.t 31))]), none⟩, ⟨(some 33), (.app 1 16 (.t 28) (.t 32)), none⟩, ⟨(some 4), (.mov (.t 33)), none⟩]) .ret)))))
theorem cc63 : ccode Tryd.prog (min Tryd.f63.ntmps pbase) (Tryd.f63.body.getD .skip) = some ac63 := by kernel_rfl
def ac64 : ACode := (.seq (.ops [⟨(some 6), (.mov (.c (.bool false))), none⟩]) (.seq (.ops [⟨(some 7), (.mov (.t 0)), none⟩, ⟨(some 8), (.mov (.t 1)), none⟩, ⟨(some 9), (.bin .geq (.t 7) (.t 8)), none⟩, ⟨(some 10), (.mov (.t 9)), none⟩, ⟨(some 11), (.mov (.t 0)), (some (10, true))⟩, ⟨(some 12), (.mov (.t 2)), (some (10, true))⟩, ⟨(some 13), (.bin .leq (.t 11) (.t 12)), (some (10, true))⟩, ⟨(some 14), (.pick (.t 10) (.t 13) (.c (.bool false))), none⟩, ⟨(some 6), (.mov (.t 14)), none⟩]) .ret))
theorem cc64 : ccode Tryd.prog (min Tryd.f64.ntmps pbase) (Tryd.f64.body.getD .skip) = some ac64 := by kernel_rfl
def ac65 : ACode := (.seq (.ops [⟨(some 2), (.mov (.c (.int .i64 0))), none⟩]) (.seq (.ops [⟨(some 3), (.mov (.c (.int .i64 1))), none⟩]) (.seq (.seq (.ops [⟨(some 4), (.mov (.c (.int .i64 2))), none⟩]) (.block 0 (.loop (.seq (.seq (.ops [⟨(some 5), (.mov (.t 4)), none⟩, ⟨(some 6), (.mov (.t 0)), none⟩, ⟨(some 7), (.bin .leq (.t 5) (.t 6)), none⟩]) (.cond (.t 7) .skip (.exit 0))) (.seq (.block 1 (.ops [⟨(some 10), (.mov (.t 3)), none⟩, ⟨(some 11), (.mov (.t 4)), none⟩, ⟨(some 12), (.bin .mul (.t 10) (.t 11)), none⟩, ⟨(some 3), (.mov (.t 12)), none⟩])) (.ops [⟨(some 8), (.mov (.t 4)), none⟩, ⟨(some 9), (.bin .add (.t 8) (.c (.int .i64 1))), none⟩, ⟨(some 4), (.mov (.t 9)), none⟩])))))) (.seq (.ops [⟨(some 13), (.mov (.t 3)), none⟩, ⟨(some 2), (.mov (.t 13)), none⟩]) .ret))))
theorem cc65 : ccode Tryd.prog (min Tryd.f65.ntmps pbase) (Tryd.f65.body.getD .skip) = some ac65 := by kernel_rfl
def ac66 : ACode := (.seq (.ops [⟨(some 2), (.nils 1), none⟩]) (.seq (.ops [⟨(some 6), (.mov (.t 0)), none⟩, ⟨(some 7), (.call 80 [(.t 6)]), none⟩, ⟨(some 3), (.mov (.t 7)), none⟩]) (.seq (.seq (.ops [⟨(some 8), (.mov (.t 3)), none⟩, ⟨(some 9), (.len (.t 8)), none⟩, ⟨(some 10), (.bin .sub (.t 9) (.c (.int .i64 1))), none⟩, ⟨(some 4), (.mov (.t 10)), none⟩]) (.block 0 (.loop (.seq (.seq (.ops [⟨(some 11), (.mov (.t 4)), none⟩, ⟨(some 12), (.bin .geq (.t 11) (.c (.int .i64 0))), none⟩]) (.cond (.t 12) .skip (.exit 0))) (.seq (.block 1 (.seq (.ops [⟨(some 15), (.mov (.t 4)), none⟩, ⟨(some 16), (.bin .add (.t 15) (.c (.int .i64 1))), none⟩, ⟨(some 5), (.mov (.t 16)), none⟩]) (.block 2 (.loop (.seq (.seq (.ops [⟨(some 17), (.mov (.t 5)), none⟩, ⟨(some 18), (.mov (.t 3)), none⟩, ⟨(some 19), (.len (.t 18)), none⟩, ⟨(some 20), (.bin .lss (.t 17) (.t 19)), none⟩]) (.cond (.t 20) .skip (.exit 2))) (.seq (.block 3 (.tree (.take ⟨(some 23), (.mov (.t 3)), none⟩ (.take ⟨(some 24), (.mov (.t 4)), none⟩ (.take ⟨(some 25), (.idx 1 (.t 23) (.t 24)), none⟩ (.take ⟨(some 26), (.ld none (.t 25)), none⟩ (.take ⟨(some 27), (.mov (.t 5)), none⟩ (.take ⟨(some 28), (.mov (.t 4)), none⟩ (.take ⟨(some 29), (.call 84 [(.t 27), (.t 28)]), none⟩ (.take ⟨(some 30), (.mov (.t 3)), none⟩ (.take ⟨(some 31), (.mov (.t 5)), none⟩ (.take ⟨(some 32), (.idx 1 (.t 30) (.t 31)), none⟩ (.take ⟨(some 33), (.ld none (.t 32)), none⟩ (.take ⟨(some 34), (.bin .mul (.t 29) (.t 33)), none⟩ (.take ⟨(some 35), (.bin .sub (.t 26) (.t 34)), none⟩ (.take ⟨(some 36), (.idx 1 (.t 23) (.t 24)), none⟩ (.take ⟨none, (.st 1 (.t 36) (.t 35)), none⟩ .done))))))))))))))))) (.ops [⟨(some 21), (.mov (.t 5)), none⟩, ⟨(some 22), (.bin .add (.t 21) (.c (.int .i64 1))), none⟩, ⟨(some 5), (.mov (.t 22)), none⟩]))))))) (.ops [⟨(some 13), (.mov (.t 4)), none⟩, ⟨(some 14), (.bin .sub (.t 13) (.c (.int .i64 1))), none⟩, ⟨(some 4), (.mov (.t 14)), none⟩])))))) (.seq (.ops [⟨(some 37), (.mov (.t 3)), none⟩, ⟨(some 2), (.mov (.t 37)), none⟩]) .ret))))
theorem cc66 : ccode Tryd.prog (min Tryd.f66.ntmps pbase) (Tryd.f66.body.getD .skip) = some ac66 := by kernel_rfl
def ac67 : ACode := (.seq (.ops [⟨(some 2), (.mov (.c (.int .i64 0))), none⟩]) (.seq (.ops [⟨(some 3), (.mov (.c (.int .i64 1))), none⟩]) (.seq (.seq (.ops [⟨(some 4), (.mov (.c (.int .i64 2))), none⟩]) (.block 0 (.loop (.seq (.seq (.ops [⟨(some 5), (.mov (.t 4)), none⟩, ⟨(some 6), (.mov (.t 0)), none⟩, ⟨(some 7), (.bin .leq (.t 5) (.t 6)), none⟩]) (.cond (.t 7) .skip (.exit 0))) (.seq (.block 1 (.ops [⟨(some 10), (.mov (.t 3)), none⟩, ⟨(some 11), (.mov (.t 4)), none⟩, ⟨(some 12), (.bin .mul (.t 10) (.t 11)), none⟩, ⟨(some 3), (.mov (.t 12)), none⟩])) (.ops [⟨(some 8), (.mov (.t 4)), none⟩, ⟨(some 9), (.bin .add (.t 8) (.c (.int .i64 1))), none⟩, ⟨(some 4), (.mov (.t 9)), none⟩])))))) (.seq (.ops [⟨(some 13), (.mov (.t 3)), none⟩, ⟨(some 2), (.mov (.t 13)), none⟩]) .ret))))
theorem cc67 : ccode Tryd.prog (min Tryd.f67.ntmps pbase) (Tryd.f67.body.getD .skip) = some ac67 := by kernel_rfl
def ac68 : ACode := (.seq (.ops [⟨(some 4), (.mov (.c (.int .i64 0))), none⟩]) (.seq (.ops [⟨(some 5), (.mov (.c (.int .i64 1))), none⟩]) (.seq (.seq (.ops [⟨(some 6), (.mov (.c (.int .i64 1))), none⟩]) (.block 0 (.loop (.seq (.seq (.ops [⟨(some 7), (.mov (.t 6)), none⟩, ⟨(some 8), (.mov (.t 1)), none⟩, ⟨(some 9), (.bin .leq (.t 7) (.t 8)), none⟩]) (.cond (.t 9) .skip (.exit 0))) (.seq (.block 1 (.ops [⟨(some 12), (.mov (.t 5)), none⟩, ⟨(some 13), (.mov (.t 0)), none⟩, ⟨(some 14), (.mov (.t 1)), none⟩, ⟨(some 15), (.bin .sub (.t 13) (.t 14)), none⟩, ⟨(some 16), (.mov (.t 6)), none⟩, ⟨(some 17), (.bin .add (.t 15) (.t 16)), none⟩, ⟨(some 18), (.bin .mul (.t 12) (.t 17)), none⟩, ⟨(some 19), (.mov (.t 6)), none⟩, ⟨(some 20), (.bin .quo (.t 18) (.t 19)), none⟩, ⟨(some 5), (.mov (.t 20)), none⟩])) (.ops [⟨(some 10), (.mov (.t 6)), none⟩, ⟨(some 11), (.bin .add (.t 10) (.c (.int .i64 1))), none⟩, ⟨(some 6), (.mov (.t 11)), none⟩])))))) (.seq (.ops [⟨(some 21), (.mov (.t 5)), none⟩, ⟨(some 4), (.mov (.t 21)), none⟩]) .ret))))
theorem cc68 : ccode Tryd.prog (min Tryd.f68.ntmps pbase) (Tryd.f68.body.getD .skip) = some ac68 := by kernel_rfl
def ac71 : ACode := (.seq (.ops [⟨(some 4), (.mov (.c (.bool false))), none⟩]) (.seq (.ops [⟨(some 5), (.mov (.t 0)), none⟩, ⟨(some 6), (.mov (.t 1)), none⟩, ⟨(some 7), (.bin .shr (.t 5) (.t 6)), none⟩, ⟨(some 8), (.bin .and (.t 7) (.c (.int .u16 1))), none⟩, ⟨(some 9), (.bin .eql (.t 8) (.c (.int .u16 1))), none⟩, ⟨(some 4), (.mov (.t 9)), none⟩]) .ret))
theorem cc71 : ccode Tryd.prog (min Tryd.f71.ntmps pbase) (Tryd.f71.body.getD .skip) = some ac71 := by kernel_rfl
def ac72 : ACode := (.seq (.ops [⟨(some 4), (.mov (.c (.int .u16 0))), none⟩]) (.seq (.ops [⟨(some 5), (.mov (.t 0)), none⟩, ⟨(some 6), (.mov (.t 1)), none⟩, ⟨(some 7), (.bin .shl (.c (.int .u16 1)) (.t 6)), none⟩, ⟨(some 8), (.bin .or (.t 5) (.t 7)), none⟩, ⟨(some 4), (.mov (.t 8)), none⟩]) .ret))
theorem cc72 : ccode Tryd.prog (min Tryd.f72.ntmps pbase) (Tryd.f72.body.getD .skip) = some ac72 := by kernel_rfl
def ac73 : ACode := (.seq (.ops [⟨(some 2), (.mov (.c (.int .i64 0))), none⟩]) (.seq (.ops [⟨(some 3), (.mov (.t 0)), none⟩, ⟨(some 4), (.call 86 [(.t 3)]), none⟩, ⟨(some 2), (.mov (.t 4)), none⟩]) .ret))
theorem cc73 : ccode Tryd.prog (min Tryd.f73.ntmps pbase) (Tryd.f73.body.getD .skip) = some ac73 := by kernel_rfl
def ac74 : ACode := (.seq (.ops [⟨(some 2), (.mov (.c (.int .i64 0))), none⟩]) (.seq (.ops [⟨(some 3), (.mov (.c (.int .i64 0))), none⟩]) (.seq (.seq (.ops [⟨(some 6), (.mov (.t 0)), none⟩, ⟨(some 7), (.len (.t 6)), none⟩, ⟨(some 8), (.mov (.c (.int .i64 0))), none⟩]) (.block 0 (.loop (.seq (.ops [⟨(some 9), (.bin .lss (.t 8) (.t 7)), none⟩]) (.seq (.cond (.t 9) .skip (.exit 0)) (.seq (.block 1 (.seq (.ops [⟨(some 10), (.idx 1 (.t 6) (.t 8)), none⟩, ⟨(some 11), (.ld none (.t 10)), none⟩, ⟨(some 5), (.mov (.t 11)), none⟩]) (.seq (.ops [⟨(some 12), (.mov (.t 5)), none⟩, ⟨(some 13), (.mov (.t 3)), none⟩, ⟨(some 14), (.bin .neq (.t 12) (.t 13)), none⟩]) (.cond (.t 14) (.seq (.ops [⟨(some 15), (.mov (.t 5)), none⟩, ⟨(some 2), (.mov (.t 15)), none⟩]) .ret) .skip)))) (.ops [⟨(some 16), (.bin .add (.t 8) (.c (.int .i64 1))), none⟩, ⟨(some 8), (.mov (.t 16)), none⟩]))))))) (.seq (.ops [⟨(some 17), (.mov (.t 3)), none⟩, ⟨(some 2), (.mov (.t 17)), none⟩]) .ret))))
theorem cc74 : ccode Tryd.prog (min Tryd.f74.ntmps pbase) (Tryd.f74.body.getD .skip) = some ac74 := by kernel_rfl
def ac75 : ACode := (.seq (.ops [⟨(some 4), (.mov (.c (.int .i64 0))), none⟩]) (.seq (.ops [⟨(some 7), (.mov (.t 0)), none⟩, ⟨(some 8), (.call 87 [(.t 7)]), none⟩, ⟨(some 5), (.mov (.t 8)), none⟩]) (.seq (.ops [⟨(some 9), (.mov (.t 1)), none⟩, ⟨(some 10), (.call 87 [(.t 9)]), none⟩, ⟨(some 6), (.mov (.t 10)), none⟩]) (.seq (.seq (.ops [⟨(some 11), (.mov (.t 5)), none⟩]) (.cond (.t 11) (.seq (.seq (.ops [⟨(some 12), (.mov (.t 6)), none⟩]) (.cond (.t 12) (.seq (.ops [⟨(some 4), (.mov (.c (.int .i64 0))), none⟩]) .ret) .skip)) (.seq (.ops [⟨(some 4), (.mov (.c (.int .i64 (-1)))), none⟩]) .ret)) .skip)) (.seq (.seq (.ops [⟨(some 13), (.mov (.t 6)), none⟩]) (.cond (.t 13) (.seq (.ops [⟨(some 4), (.mov (.c (.int .i64 1))), none⟩]) .ret) .skip)) (.seq (.seq (.ops [⟨(some 14), (.mov (.t 0)), none⟩, ⟨(some 15), (.mov (.t 1)), none⟩, ⟨(some 16), (.bin .lss (.t 14) (.t 15)), none⟩]) (.cond (.t 16) (.seq (.ops [⟨(some 4), (.mov (.c (.int .i64 (-1)))), none⟩]) .ret) .skip)) (.seq (.seq (.ops [⟨(some 17), (.mov (.t 0)), none⟩, ⟨(some 18), (.mov (.t 1)), none⟩, ⟨(some 19), (.bin .gtr (.t 17) (.t 18)), none⟩]) (.cond (.t 19) (.seq (.ops [⟨(some 4), (.mov (.c (.int .i64 1))), none⟩]) .ret) .skip)) (.seq (.ops [⟨(some 4), (.mov (.c (.int .i64 0))), none⟩]) .ret))))))))
theorem cc75 : ccode Tryd.prog (min Tryd.f75.ntmps pbase) (Tryd.f75.body.getD .skip) = some ac75 := by kernel_rfl
def ac76 : ACode := (.seq (.ops [⟨(some 2), (.box 2 (.t 0)), none⟩, ⟨(some 4), (.mov (.c (.int .i64 0))), none⟩]) (.seq (.tree (.take ⟨(some 5), (.mov (.t 1)), none⟩ (.take ⟨(some 6), (.call 73 [(.t 5)]), none⟩ (.take ⟨(some 7), (.ld (some 2) (.t 2)), none⟩ (.take ⟨(some 8), (.mov (.t 1)), none⟩ (.take ⟨(some 9), (.call 50 [(.t 7), (.t 8)]), none⟩ (.take ⟨(some 10), (.call 73 [(.t 9)]), none⟩ (.take ⟨(some 11), (.bin .add (.t 6) (.t 10)), none⟩ (.take ⟨(some 4), (.mov (.t 11)), none⟩ .done))))))))) .ret))
theorem cc76 : ccode Tryd.prog (min Tryd.f76.ntmps pbase) (Tryd.f76.body.getD .skip) = some ac76 := by kernel_rfl
def ac77 : ACode := (.seq (.ops [⟨(some 4), (.mov (.c (.int .i64 0))), none⟩]) (.seq (.seq (.ops [⟨(some 9), (.mov (.t 0)), none⟩, ⟨(some 10), (.len (.t 9)), none⟩, ⟨(some 11), (.mov (.c (.int .i64 0))), none⟩]) (.block 0 (.loop (.seq (.ops [⟨(some 12), (.bin .lss (.t 11) (.t 10)), none⟩]) (.seq (.cond (.t 12) .skip (.exit 0)) (.seq (.block 1 (.seq (.ops [⟨(some 13), (.mov (.t 11)), none⟩, ⟨(some 14), (.idx 1 (.t 9) (.t 11)), none⟩, ⟨(some 15), (.ld none (.t 14)), none⟩, ⟨(some 5), (.mov (.t 13)), none⟩, ⟨(some 6), (.mov (.t 15)), none⟩]) (.seq (.seq (.ops [⟨(some 16), (.mov (.t 5)), none⟩, ⟨(some 17), (.mov (.t 1)), none⟩, ⟨(some 18), (.len (.t 17)), none⟩, ⟨(some 19), (.bin .geq (.t 16) (.t 18)), none⟩]) (.cond (.t 19) (.seq (.ops [⟨(some 4), (.mov (.c (.int .i64 1))), none⟩]) .ret) .skip)) (.seq (.ops [⟨(some 20), (.mov (.t 1)), none⟩, ⟨(some 21), (.mov (.t 5)), none⟩, ⟨(some 22), (.idx 1 (.t 20) (.t 21)), none⟩, ⟨(some 23), (.ld none (.t 22)), none⟩, ⟨(some 7), (.mov (.t 23)), none⟩]) (.seq (.ops [⟨(some 24), (.mov (.t 6)), none⟩, ⟨(some 25), (.mov (.t 7)), none⟩, ⟨(some 26), (.call 75 [(.t 24), (.t 25)]), none⟩, ⟨(some 8), (.mov (.t 26)), none⟩]) (.seq (.ops [⟨(some 27), (.mov (.t 8)), none⟩, ⟨(some 28), (.bin .neq (.t 27) (.c (.int .i64 0))), none⟩]) (.cond (.t 28) (.seq (.ops [⟨(some 29), (.mov (.t 8)), none⟩, ⟨(some 4), (.mov (.t 29)), none⟩]) .ret) .skip))))))) (.ops [⟨(some 30), (.bin .add (.t 11) (.c (.int .i64 1))), none⟩, ⟨(some 11), (.mov (.t 30)), none⟩]))))))) (.seq (.seq (.ops [⟨(some 31), (.mov (.t 0)), none⟩, ⟨(some 32), (.len (.t 31)), none⟩, ⟨(some 33), (.mov (.t 1)), none⟩, ⟨(some 34), (.len (.t 33)), none⟩, ⟨(some 35), (.bin .lss (.t 32) (.t 34)), none⟩]) (.cond (.t 35) (.seq (.ops [⟨(some 4), (.mov (.c (.int .i64 (-1)))), none⟩]) .ret) .skip)) (.seq (.ops [⟨(some 4), (.mov (.c (.int .i64 0))), none⟩]) .ret))))
theorem cc77 : ccode Tryd.prog (min Tryd.f77.ntmps pbase) (Tryd.f77.body.getD .skip) = some ac77 := by kernel_rfl
def ac78 : ACode := (.seq (.ops [⟨(some 2), (.mov (.c (.bool false))), none⟩]) (.seq (.ops [⟨(some 3), (.mov (.t 0)), none⟩, ⟨(some 4), (.bin .geq (.t 3) (.c (.int .i64 1))), none⟩, ⟨(some 5), (.mov (.t 4)), none⟩, ⟨(some 6), (.mov (.t 0)), (some (5, true))⟩, ⟨(some 7), (.bin .leq (.t 6) (.c (.int .i64 12))), (some (5, true))⟩, ⟨(some 8), (.pick (.t 5) (.t 7) (.c (.bool false))), none⟩, ⟨(some 2), (.mov (.t 8)), none⟩]) .ret))
theorem cc78 : ccode Tryd.prog (min Tryd.f78.ntmps pbase) (Tryd.f78.body.getD .skip) = some ac78 := by kernel_rfl
def ac79 : ACode := (.seq (.ops [⟨(some 4), (.mov (.c (.bool false))), none⟩]) (.seq (.ops [⟨(some 5), (.mov (.c (.int .u16 0))), none⟩]) (.seq (.seq (.ops [⟨(some 8), (.mov (.t 0)), none⟩, ⟨(some 9), (.len (.t 8)), none⟩, ⟨(some 10), (.mov (.c (.int .i64 0))), none⟩]) (.block 0 (.loop (.seq (.ops [⟨(some 11), (.bin .lss (.t 10) (.t 9)), none⟩]) (.seq (.cond (.t 11) .skip (.exit 0)) (.seq (.block 1 (.seq (.ops [⟨(some 12), (.idx 1 (.t 8) (.t 10)), none⟩, ⟨(some 13), (.ld none (.t 12)), none⟩, ⟨(some 7), (.mov (.t 13)), none⟩]) (.seq (.seq (.ops [⟨(some 14), (.mov (.t 7)), none⟩, ⟨(some 15), (.mov (.t 1)), none⟩, ⟨(some 16), (.call 88 [(.t 14), (.t 15)]), none⟩, ⟨(some 17), (.not (.t 16)), none⟩, ⟨(some 18), (.mov (.t 17)), none⟩, ⟨(some 19), (.mov (.t 5)), (some (18, false))⟩, ⟨(some 20), (.mov (.t 7)), (some (18, false))⟩, ⟨(some 21), (.call 71 [(.t 19), (.t 20)]), (some (18, false))⟩, ⟨(some 22), (.pick (.t 18) (.c (.bool true)) (.t 21)), none⟩]) (.cond (.t 22) (.seq (.ops [⟨(some 4), (.mov (.c (.bool false))), none⟩]) .ret) .skip)) (.ops [⟨(some 23), (.mov (.t 5)), none⟩, ⟨(some 24), (.mov (.t 7)), none⟩, ⟨(some 25), (.call 72 [(.t 23), (.t 24)]), none⟩, ⟨(some 5), (.mov (.t 25)), none⟩])))) (.ops [⟨(some 26), (.bin .add (.t 10) (.c (.int .i64 1))), none⟩, ⟨(some 10), (.mov (.t 26)), none⟩]))))))) (.seq (.ops [⟨(some 4), (.mov (.c (.bool true))), none⟩]) .ret))))
theorem cc79 : ccode Tryd.prog (min Tryd.f79.ntmps pbase) (Tryd.f79.body.getD .skip) = some ac79 := by kernel_rfl
def ac80 : ACode := (.seq (.ops [⟨(some 2), (.nils 1), none⟩]) (.seq (.seq (.ops [⟨(some 3), (.mov (.t 0)), none⟩, ⟨(some 4), (.isnil false (.t 3)), none⟩]) (.cond (.t 4) (.seq (.ops [⟨(some 2), (.nils 1), none⟩]) .ret) .skip)) (.seq (.ops [⟨(some 5), (.bsl 1 0 [(.int .i64 0)] []), none⟩, ⟨(some 6), (.mov (.t 0)), none⟩, ⟨(some 7), (.app 1 8 (.t 5) (.t 6)), none⟩, ⟨(some 2), (.mov (.t 7)), none⟩]) .ret)))
theorem cc80 : ccode Tryd.prog (min Tryd.f80.ntmps pbase) (Tryd.f80.body.getD .skip) = some ac80 := by kernel_rfl
def ac81 : ACode := (.seq (.ops [⟨(some 4), (.mov (.c (.int .i64 0))), none⟩]) (.seq (.seq (.ops [⟨(some 6), (.mov (.t 0)), none⟩, ⟨(some 7), (.len (.t 6)), none⟩, ⟨(some 8), (.mov (.c (.int .i64 0))), none⟩]) (.block 0 (.loop (.seq (.ops [⟨(some 9), (.bin .lss (.t 8) (.t 7)), none⟩]) (.seq (.cond (.t 9) .skip (.exit 0)) (.seq (.block 1 (.seq (.ops [⟨(some 10), (.mov (.t 8)), none⟩, ⟨(some 5), (.mov (.t 10)), none⟩]) (.seq (.ops [⟨(some 11), (.mov (.t 1)), none⟩, ⟨(some 12), (.mov (.t 0)), none⟩, ⟨(some 13), (.mov (.t 5)), none⟩, ⟨(some 14), (.idx 1 (.t 12) (.t 13)), none⟩, ⟨(some 15), (.ld none (.t 14)), none⟩, ⟨(some 16), (.bin .eql (.t 11) (.t 15)), none⟩]) (.cond (.t 16) (.seq (.ops [⟨(some 17), (.mov (.t 5)), none⟩, ⟨(some 4), (.mov (.t 17)), none⟩]) .ret) .skip)))) (.ops [⟨(some 18), (.bin .add (.t 8) (.c (.int .i64 1))), none⟩, ⟨(some 8), (.mov (.t 18)), none⟩]))))))) (.seq (.ops [⟨(some 4), (.mov (.c (.int .i64 (-1)))), none⟩]) .ret)))
theorem cc81 : ccode Tryd.prog (min Tryd.f81.ntmps pbase) (Tryd.f81.body.getD .skip) = some ac81 := by kernel_rfl
def ac82 : ACode := (.seq (.ops [⟨(some 6), (.mov (.c (.bool false))), none⟩]) (.seq (.seq (.ops [⟨(some 9), (.mov (.t 0)), none⟩, ⟨(some 10), (.len (.t 9)), none⟩, ⟨(some 11), (.mov (.c (.int .i64 0))), none⟩]) (.block 0 (.loop (.seq (.ops [⟨(some 12), (.bin .lss (.t 11) (.t 10)), none⟩]) (.seq (.cond (.t 12) .skip (.exit 0)) (.seq (.block 1 (.seq (.ops [⟨(some 13), (.idx 1 (.t 9) (.t 11)), none⟩, ⟨(some 14), (.ld none (.t 13)), none⟩, ⟨(some 8), (.mov (.t 14)), none⟩]) (.seq (.ops [⟨(some 15), (.mov (.t 8)), none⟩, ⟨(some 16), (.mov (.t 1)), none⟩, ⟨(some 17), (.mov (.t 2)), none⟩, ⟨(some 18), (.call 64 [(.t 15), (.t 16), (.t 17)]), none⟩, ⟨(some 19), (.not (.t 18)), none⟩]) (.cond (.t 19) (.seq (.ops [⟨(some 6), (.mov (.c (.bool false))), none⟩]) .ret) .skip)))) (.ops [⟨(some 20), (.bin .add (.t 11) (.c (.int .i64 1))), none⟩, ⟨(some 11), (.mov (.t 20)), none⟩]))))))) (.seq (.ops [⟨(some 6), (.mov (.c (.bool true))), none⟩]) .ret)))
theorem cc82 : ccode Tryd.prog (min Tryd.f82.ntmps pbase) (Tryd.f82.body.getD .skip) = some ac82 := by kernel_rfl
def ac83 : ACode := (.seq (.ops [⟨(some 8), (.nils 1), none⟩]) (.seq (.seq (.ops [⟨(some 12), (.mov (.t 3)), none⟩, ⟨(some 13), (.bin .eql (.t 12) (.c (.int .i64 0))), none⟩]) (.cond (.t 13) (.seq (.ops [⟨(some 8), (.nils 1), none⟩]) .ret) .skip)) (.seq (.seq (.ops [⟨(some 14), (.mov (.t 1)), none⟩, ⟨(some 15), (.bin .eql (.t 14) (.c (.string (.mk #[])))), none⟩]) (.cond (.t 15) (.seq (.ops [⟨(some 16), (.mov (.t 0)), none⟩, ⟨(some 17), (.mov (.t 3)), none⟩, ⟨(some 18), (.call 89 [(.t 16), (.t 17)]), none⟩, ⟨(some 8), (.mov (.t 18)), none⟩]) .ret) .skip)) (.seq (.seq (.ops [⟨(some 19), (.mov (.t 3)), none⟩, ⟨(some 20), (.bin .lss (.t 19) (.c (.int .i64 0))), none⟩]) (.cond (.t 20) (.ops [⟨(some 21), (.mov (.t 0)), none⟩, ⟨(some 22), (.mov (.t 1)), none⟩, ⟨(some 23), (.call 90 [(.t 21), (.t 22)]), none⟩, ⟨(some 24), (.bin .add (.t 23) (.c (.int .i64 1))), none⟩, ⟨(some 3), (.mov (.t 24)), none⟩]) .skip)) (.seq (.ops [⟨(some 25), (.mov (.t 3)), none⟩, ⟨(some 26), (.mov (.t 0)), none⟩, ⟨(some 27), (.slen (.t 26)), none⟩, ⟨(some 28), (.bin .add (.t 27) (.c (.int .i64 1))), none⟩, ⟨(some 29), (.pu (.mm false) [(.t 25), (.t 28)]), none⟩, ⟨(some 3), (.mov (.t 29)), none⟩]) (.seq (.ops [⟨(some 30), (.mov (.t 3)), none⟩, ⟨(some 31), (.mk 1 16 [(.string (.mk #[]))] (.t 30) (.t 30)), none⟩, ⟨(some 9), (.mov (.t 31)), none⟩]) (.seq (.ops [⟨(some 32), (.mov (.t 3)), none⟩, ⟨(some 33), (.bin .sub (.t 32) (.c (.int .i64 1))), none⟩, ⟨(some 3), (.mov (.t 33)), none⟩]) (.seq (.ops [⟨(some 10), (.mov (.c (.int .i64 0))), none⟩]) (.seq (.block 0 (.loop (.seq (.seq (.ops [⟨(some 34), (.mov (.t 10)), none⟩, ⟨(some 35), (.mov (.t 3)), none⟩, ⟨(some 36), (.bin .lss (.t 34) (.t 35)), none⟩]) (.cond (.t 36) .skip (.exit 0))) (.block 1 (.seq (.ops [⟨(some 37), (.mov (.t 0)), none⟩, ⟨(some 38), (.mov (.t 1)), none⟩, ⟨(some 39), (.call 91 [(.t 37), (.t 38)]), none⟩, ⟨(some 11), (.mov (.t 39)), none⟩]) (.seq (.seq (.ops [⟨(some 40), (.mov (.t 11)), none⟩, ⟨(some 41), (.bin .lss (.t 40) (.c (.int .i64 0))), none⟩]) (.cond (.t 41) (.exit 0) .skip)) (.seq (.ops [⟨(some 42), (.mov (.t 9)), none⟩, ⟨(some 43), (.mov (.t 10)), none⟩, ⟨(some 44), (.mov (.t 0)), none⟩, ⟨(some 45), (.mov (.t 11)), none⟩, ⟨(some 46), (.mov (.t 2)), none⟩, ⟨(some 47), (.bin .add (.t 45) (.t 46)), none⟩, ⟨(some 48), (.pu (.scut false true) [(.t 44), (.t 47)]), none⟩, ⟨(some 49), (.idx 1 (.t 42) (.t 43)), none⟩, ⟨none, (.st 1 (.t 49) (.t 48)), none⟩]) (.seq (.ops [⟨(some 50), (.mov (.t 0)), none⟩, ⟨(some 51), (.mov (.t 11)), none⟩, ⟨(some 52), (.mov (.t 1)), none⟩, ⟨(some 53), (.slen (.t 52)), none⟩, ⟨(some 54), (.bin .add (.t 51) (.t 53)), none⟩, ⟨(some 55), (.pu (.scut true false) [(.t 50), (.t 54)]), none⟩, ⟨(some 0), (.mov (.t 55)), none⟩]) (.ops [⟨(some 56), (.mov (.t 10)), none⟩, ⟨(some 57), (.bin .add (.t 56) (.c (.int .i64 1))), none⟩, ⟨(some 10), (.mov (.t 57)), none⟩]))))))))) (.seq (.ops [⟨(some 58), (.mov (.t 9)), none⟩, ⟨(some 59), (.mov (.t 10)), none⟩, ⟨(some 60), (.mov (.t 0)), none⟩, ⟨(some 61), (.idx 1 (.t 58) (.t 59)), none⟩, ⟨none, (.st 1 (.t 61) (.t 60)), none⟩]) (.seq (.ops [⟨(some 62), (.mov (.t 9)), none⟩, ⟨(some 63), (.mov (.t 10)), none⟩, ⟨(some 64), (.bin .add (.t 63) (.c (.int .i64 1))), none⟩, ⟨(some 65), (.cut 1 (.t 62) none (some (.t 64))), none⟩, ⟨(some 8), (.mov (.t 65)), none⟩]) .ret)))))))))))
theorem cc83 : ccode Tryd.prog (min Tryd.f83.ntmps pbase) (Tryd.f83.body.getD .skip) = some ac83 := by kernel_rfl
def ac84 : ACode := (.seq (.ops [⟨(some 4), (.mov (.c (.int .i64 0))), none⟩]) (.seq (.ops [⟨(some 5), (.mov (.t 0)), none⟩, ⟨(some 6), (.call 65 [(.t 5)]), none⟩, ⟨(some 7), (.mov (.t 1)), none⟩, ⟨(some 8), (.call 65 [(.t 7)]), none⟩, ⟨(some 9), (.mov (.t 0)), none⟩, ⟨(some 10), (.mov (.t 1)), none⟩, ⟨(some 11), (.bin .sub (.t 9) (.t 10)), none⟩, ⟨(some 12), (.call 65 [(.t 11)]), none⟩, ⟨(some 13), (.bin .mul (.t 8) (.t 12)), none⟩, ⟨(some 14), (.bin .quo (.t 6) (.t 13)), none⟩, ⟨(some 4), (.mov (.t 14)), none⟩]) .ret))
theorem cc84 : ccode Tryd.prog (min Tryd.f84.ntmps pbase) (Tryd.f84.body.getD .skip) = some ac84 := by kernel_rfl
def ac86 : ACode := (.seq (.ops [⟨(some 2), (.mov (.c (.int .i64 0))), none⟩]) (.seq (.tree (.take ⟨(some 3), (.mov (.t 0)), none⟩ (.take ⟨(some 4), (.bin .shr (.t 3) (.c (.int .u64 8))), none⟩ (.take ⟨(some 5), (.pu .six [(.c (.string (.mk #[0, 1, 1, 2, 1, 2, 2, 3, 1, 2, 2, 3, 2, 3, 3, 4, 1, 2, 2, 3, 2, 3, 3, 4, 2, 3, 3, 4, 3, 4, 4, 5, 1, 2, 2, 3, 2, 3, 3, 4, 2, 3, 3, 4, 3, 4, 4, 5, 2, 3, 3, 4, 3, 4, 4, 5, 3, 4, 4, 5, 4, 5, 5, 6, 1, 2, 2, 3, 2, 3, 3, 4, 2, 3, 3, 4, 3, 4, 4, 5, 2, 3, 3, 4, 3, 4, 4, 5, 3, 4, 4, 5, 4, 5, 5, 6, 2, 3, 3, 4, 3, 4, 4, 5, 3, 4, 4, 5, 4, 5, 5, 6, 3, 4, 4, 5, 4, 5, 5, 6, 4, 5, 5, 6, 5, 6, 6, 7, 1, 2, 2, 3, 2, 3, 3, 4, 2, 3, 3, 4, 3, 4, 4, 5, 2, 3, 3, 4, 3, 4, 4, 5, 3, 4, 4, 5, 4, 5, 5, 6, 2, 3, 3, 4, 3, 4, 4, 5, 3, 4, 4, 5, 4, 5, 5, 6, 3, 4, 4, 5, 4, 5, 5, 6, 4, 5, 5, 6, 5, 6, 6, 7, 2, 3, 3, 4, 3, 4, 4, 5, 3, 4, 4, 5, 4, 5, 5, 6, 3, 4, 4, 5, 4, 5, 5, 6, 4, 5, 5, 6, 5, 6, 6, 7, 3, 4, 4, 5, 4, 5, 5, 6, 4, 5, 5, 6, 5, 6, 6, 7, 4, 5, 5, 6, 5, 6, 6, 7, 5, 6, 6, 7, 6, 7, 7, 8]))), (.t 4)]), none⟩ (.take ⟨(some 6), (.mov (.t 0)), none⟩ (.take ⟨(some 7), (.bin .and (.t 6) (.c (.int .u16 255))), none⟩ (.take ⟨(some 8), (.pu .six [(.c (.string (.mk #[0, 1, 1, 2, 1, 2, 2, 3, 1, 2, 2, 3, 2, 3, 3, 4, 1, 2, 2, 3, 2, 3, 3, 4, 2, 3, 3, 4, 3, 4, 4, 5, 1, 2, 2, 3, 2, 3, 3, 4, 2, 3, 3, 4, 3, 4, 4, 5, 2, 3, 3, 4, 3, 4, 4, 5, 3, 4, 4, 5, 4, 5, 5, 6, 1, 2, 2, 3, 2, 3, 3, 4, 2, 3, 3, 4, 3, 4, 4, 5, 2, 3, 3, 4, 3, 4, 4, 5, 3, 4, 4, 5, 4, 5, 5, 6, 2, 3, 3, 4, 3, 4, 4, 5, 3, 4, 4, 5, 4, 5, 5, 6, 3, 4, 4, 5, 4, 5, 5, 6, 4, 5, 5, 6, 5, 6, 6, 7, 1, 2, 2, 3, 2, 3, 3, 4, 2, 3, 3, 4, 3, 4, 4, 5, 2, 3, 3, 4, 3, 4, 4, 5, 3, 4, 4, 5, 4, 5, 5, 6, 2, 3, 3, 4, 3, 4, 4, 5, 3, 4, 4, 5, 4, 5, 5, 6, 3, 4, 4, 5, 4, 5, 5, 6, 4, 5, 5, 6, 5, 6, 6, 7, 2, 3, 3, 4, 3, 4, 4, 5, 3, 4, 4, 5, 4, 5, 5, 6, 3, 4, 4, 5, 4, 5, 5, 6, 4, 5, 5, 6, 5, 6, 6, 7, 3, 4, 4, 5, 4, 5, 5, 6, 4, 5, 5, 6, 5, 6, 6, 7, 4, 5, 5, 6, 5, 6, 6, 7, 5, 6, 6, 7, 6, 7, 7, 8]))), (.t 7)]), none⟩ (.take ⟨(some 9), (.bin .add (.t 5) (.t 8)), none⟩ (.take ⟨(some 10), (.pu (.cvt .i64) [(.t 9)]), none⟩ (.take ⟨(some 2), (.mov (.t 10)), none⟩ .done)))))))))) .ret))
theorem cc86 : ccode Tryd.prog (min Tryd.f86.ntmps pbase) (Tryd.f86.body.getD .skip) = some ac86 := by kernel_rfl
def ac87 : ACode := (.seq (.ops [⟨(some 2), (.mov (.c (.bool false))), none⟩]) (.seq (.ops [⟨(some 3), (.mov (.t 0)), none⟩, ⟨(some 4), (.mov (.t 0)), none⟩, ⟨(some 5), (.bin .neq (.t 3) (.t 4)), none⟩, ⟨(some 2), (.mov (.t 5)), none⟩]) .ret))
theorem cc87 : ccode Tryd.prog (min Tryd.f87.ntmps pbase) (Tryd.f87.body.getD .skip) = some ac87 := by kernel_rfl
def ac88 : ACode := (.seq (.ops [⟨(some 4), (.mov (.c (.bool false))), none⟩]) (.seq (.ops [⟨(some 5), (.mov (.t 0)), none⟩, ⟨(some 6), (.bin .geq (.t 5) (.c (.int .i64 0))), none⟩, ⟨(some 7), (.mov (.t 6)), none⟩, ⟨(some 8), (.mov (.t 0)), (some (7, true))⟩, ⟨(some 9), (.mov (.t 1)), (some (7, true))⟩, ⟨(some 10), (.bin .lss (.t 8) (.t 9)), (some (7, true))⟩, ⟨(some 11), (.pick (.t 7) (.t 10) (.c (.bool false))), none⟩, ⟨(some 4), (.mov (.t 11)), none⟩]) .ret))
theorem cc88 : ccode Tryd.prog (min Tryd.f88.ntmps pbase) (Tryd.f88.body.getD .skip) = some ac88 := by kernel_rfl
def ac91 : ACode := (.seq (.ops [⟨(some 4), (.mov (.c (.int .i64 0))), none⟩]) (.seq (.ops [⟨(some 5), (.mov (.t 0)), none⟩, ⟨(some 6), (.mov (.t 1)), none⟩, ⟨(some 7), (.call 95 [(.t 5), (.t 6)]), none⟩, ⟨(some 4), (.mov (.t 7)), none⟩]) .ret))
theorem cc91 : ccode Tryd.prog (min Tryd.f91.ntmps pbase) (Tryd.f91.body.getD .skip) = some ac91 := by kernel_rfl
def ac95 : ACode := (.seq (.ops [⟨(some 4), (.mov (.c (.int .i64 0))), none⟩]) (.seq (.ops [⟨(some 14), (.mov (.t 1)), none⟩, ⟨(some 15), (.slen (.t 14)), none⟩, ⟨(some 5), (.mov (.t 15)), none⟩]) (.seq (.block 0 (.seq (.ops [⟨(some 17), (.mov (.t 5)), none⟩, ⟨(some 18), (.bin .eql (.t 17) (.c (.int .i64 0))), none⟩, ⟨(some 19), (.mov (.t 18)), none⟩, ⟨(some 20), (.mov (.t 1)), (some (19, false))⟩, ⟨(some 21), (.mov (.t 0)), (some (19, false))⟩, ⟨(some 22), (.bin .eql (.t 20) (.t 21)), (some (19, false))⟩, ⟨(some 23), (.pick (.t 19) (.c (.bool true)) (.t 22)), none⟩, ⟨(some 16), (.mov (.t 23)), none⟩]) (.cond (.t 16) (.seq (.ops [⟨(some 4), (.mov (.c (.int .i64 0))), none⟩]) .ret) (.seq (.ops [⟨(some 25), (.mov (.t 5)), none⟩, ⟨(some 26), (.bin .eql (.t 25) (.c (.int .i64 1))), none⟩, ⟨(some 24), (.mov (.t 26)), none⟩]) (.cond (.t 24) (.seq (.ops [⟨(some 27), (.mov (.t 0)), none⟩, ⟨(some 28), (.mov (.t 1)), none⟩, ⟨(some 29), (.pu .six [(.t 28), (.c (.int .i64 0))]), none⟩, ⟨(some 30), (.call 97 [(.t 27), (.t 29)]), none⟩, ⟨(some 4), (.mov (.t 30)), none⟩]) .ret) (.seq (.ops [⟨(some 32), (.mov (.t 5)), none⟩, ⟨(some 33), (.mov (.t 0)), none⟩, ⟨(some 34), (.slen (.t 33)), none⟩, ⟨(some 35), (.bin .geq (.t 32) (.t 34)), none⟩, ⟨(some 31), (.mov (.t 35)), none⟩]) (.cond (.t 31) (.seq (.ops [⟨(some 4), (.mov (.c (.int .i64 (-1)))), none⟩]) .ret) (.seq (.ops [⟨(some 37), (.mov (.t 5)), none⟩, ⟨(some 38), (.ld none (.c (.pointer (some (.mk 0 0 none))))), none⟩, ⟨(some 39), (.bin .leq (.t 37) (.t 38)), none⟩, ⟨(some 40), (.mov (.t 39)), none⟩, ⟨(some 41), (.mov (.t 0)), (some (40, true))⟩, ⟨(some 42), (.slen (.t 41)), (some (40, true))⟩, ⟨(some 43), (.bin .leq (.t 42) (.c (.int .i64 64))), (some (40, true))⟩, ⟨(some 44), (.pick (.t 40) (.t 43) (.c (.bool false))), none⟩, ⟨(some 36), (.mov (.t 44)), none⟩]) (.cond (.t 36) (.seq (.ops [⟨(some 45), (.mov (.t 0)), none⟩, ⟨(some 46), (.mov (.t 1)), none⟩, ⟨(some 47), (.xcall 98 [(.t 45), (.t 46)]), none⟩, ⟨(some 4), (.mov (.t 47)), none⟩]) .ret) .skip))))))))) (.seq (.ops [⟨(some 48), (.mov (.t 1)), none⟩, ⟨(some 49), (.pu .six [(.t 48), (.c (.int .i64 0))]), none⟩, ⟨(some 6), (.mov (.t 49)), none⟩]) (.seq (.ops [⟨(some 50), (.mov (.t 1)), none⟩, ⟨(some 51), (.pu .six [(.t 50), (.c (.int .i64 1))]), none⟩, ⟨(some 7), (.mov (.t 51)), none⟩]) (.seq (.ops [⟨(some 8), (.mov (.c (.int .i64 0))), none⟩]) (.seq (.ops [⟨(some 52), (.mov (.t 0)), none⟩, ⟨(some 53), (.slen (.t 52)), none⟩, ⟨(some 54), (.mov (.t 5)), none⟩, ⟨(some 55), (.bin .sub (.t 53) (.t 54)), none⟩, ⟨(some 56), (.bin .add (.t 55) (.c (.int .i64 1))), none⟩, ⟨(some 9), (.mov (.t 56)), none⟩]) (.seq (.ops [⟨(some 10), (.mov (.c (.int .i64 0))), none⟩]) (.seq (.block 1 (.loop (.seq (.seq (.ops [⟨(some 57), (.mov (.t 8)), none⟩, ⟨(some 58), (.mov (.t 9)), none⟩, ⟨(some 59), (.bin .lss (.t 57) (.t 58)), none⟩]) (.cond (.t 59) .skip (.exit 1))) (.block 2 (.seq (.seq (.ops [⟨(some 60), (.mov (.t 0)), none⟩, ⟨(some 61), (.mov (.t 8)), none⟩, ⟨(some 62), (.pu .six [(.t 60), (.t 61)]), none⟩, ⟨(some 63), (.mov (.t 6)), none⟩, ⟨(some 64), (.bin .neq (.t 62) (.t 63)), none⟩]) (.cond (.t 64) (.seq (.ops [⟨(some 65), (.mov (.t 0)), none⟩, ⟨(some 66), (.mov (.t 8)), none⟩, ⟨(some 67), (.bin .add (.t 66) (.c (.int .i64 1))), none⟩, ⟨(some 68), (.mov (.t 9)), none⟩, ⟨(some 69), (.pu (.scut true true) [(.t 65), (.t 67), (.t 68)]), none⟩, ⟨(some 70), (.mov (.t 6)), none⟩, ⟨(some 71), (.call 97 [(.t 69), (.t 70)]), none⟩, ⟨(some 11), (.mov (.t 71)), none⟩]) (.seq (.seq (.ops [⟨(some 72), (.mov (.t 11)), none⟩, ⟨(some 73), (.bin .lss (.t 72) (.c (.int .i64 0))), none⟩]) (.cond (.t 73) (.seq (.ops [⟨(some 4), (.mov (.c (.int .i64 (-1)))), none⟩]) .ret) .skip)) (.ops [⟨(some 74), (.mov (.t 8)), none⟩, ⟨(some 75), (.mov (.t 11)), none⟩, ⟨(some 76), (.bin .add (.t 75) (.c (.int .i64 1))), none⟩, ⟨(some 77), (.bin .add (.t 74) (.t 76)), none⟩, ⟨(some 8), (.mov (.t 77)), none⟩]))) .skip)) (.seq (.seq (.ops [⟨(some 78), (.mov (.t 0)), none⟩, ⟨(some 79), (.mov (.t 8)), none⟩, ⟨(some 80), (.bin .add (.t 79) (.c (.int .i64 1))), none⟩, ⟨(some 81), (.pu .six [(.t 78), (.t 80)]), none⟩, ⟨(some 82), (.mov (.t 7)), none⟩, ⟨(some 83), (.bin .eql (.t 81) (.t 82)), none⟩, ⟨(some 84), (.mov (.t 83)), none⟩, ⟨(some 85), (.mov (.t 0)), (some (84, true))⟩, ⟨(some 86), (.mov (.t 8)), (some (84, true))⟩, ⟨(some 87), (.mov (.t 8)), (some (84, true))⟩, ⟨(some 88), (.mov (.t 5)), (some (84, true))⟩, ⟨(some 89), (.bin .add (.t 87) (.t 88)), (some (84, true))⟩, ⟨(some 90), (.pu (.scut true true) [(.t 85), (.t 86), (.t 89)]), (some (84, true))⟩, ⟨(some 91), (.mov (.t 1)), (some (84, true))⟩, ⟨(some 92), (.bin .eql (.t 90) (.t 91)), (some (84, true))⟩, ⟨(some 93), (.pick (.t 84) (.t 92) (.c (.bool false))), none⟩]) (.cond (.t 93) (.seq (.ops [⟨(some 94), (.mov (.t 8)), none⟩, ⟨(some 4), (.mov (.t 94)), none⟩]) .ret) .skip)) (.seq (.ops [⟨(some 95), (.mov (.t 8)), none⟩, ⟨(some 96), (.bin .add (.t 95) (.c (.int .i64 1))), none⟩, ⟨(some 8), (.mov (.t 96)), none⟩]) (.seq (.ops [⟨(some 97), (.mov (.t 10)), none⟩, ⟨(some 98), (.bin .add (.t 97) (.c (.int .i64 1))), none⟩, ⟨(some 10), (.mov (.t 98)), none⟩]) (.seq (.ops [⟨(some 99), (.mov (.t 5)), none⟩, ⟨(some 100), (.ld none (.c (.pointer (some (.mk 0 0 none))))), none⟩, ⟨(some 101), (.bin .leq (.t 99) (.t 100)), none⟩, ⟨(some 102), (.mov (.t 101)), none⟩, ⟨(some 103), (.mov (.t 10)), (some (102, true))⟩, ⟨(some 104), (.mov (.t 8)), (some (102, true))⟩, ⟨(some 105), (.call 99 [(.t 104)]), (some (102, true))⟩, ⟨(some 106), (.bin .gtr (.t 103) (.t 105)), (some (102, true))⟩, ⟨(some 107), (.pick (.t 102) (.t 106) (.c (.bool false))), none⟩]) (.cond (.t 107) (.seq (.ops [⟨(some 108), (.mov (.t 0)), none⟩, ⟨(some 109), (.mov (.t 8)), none⟩, ⟨(some 110), (.pu (.scut true false) [(.t 108), (.t 109)]), none⟩, ⟨(some 111), (.mov (.t 1)), none⟩, ⟨(some 112), (.xcall 98 [(.t 110), (.t 111)]), none⟩, ⟨(some 12), (.mov (.t 112)), none⟩]) (.seq (.seq (.ops [⟨(some 113), (.mov (.t 12)), none⟩, ⟨(some 114), (.bin .geq (.t 113) (.c (.int .i64 0))), none⟩]) (.cond (.t 114) (.seq (.ops [⟨(some 115), (.mov (.t 12)), none⟩, ⟨(some 116), (.mov (.t 8)), none⟩, ⟨(some 117), (.bin .add (.t 115) (.t 116)), none⟩, ⟨(some 4), (.mov (.t 117)), none⟩]) .ret) .skip)) (.seq (.ops [⟨(some 4), (.mov (.c (.int .i64 (-1)))), none⟩]) .ret))) (.seq (.ops [⟨(some 118), (.mov (.t 5)), none⟩, ⟨(some 119), (.ld none (.c (.pointer (some (.mk 0 0 none))))), none⟩, ⟨(some 120), (.bin .gtr (.t 118) (.t 119)), none⟩, ⟨(some 121), (.mov (.t 120)), none⟩, ⟨(some 122), (.mov (.t 10)), (some (121, true))⟩, ⟨(some 123), (.mov (.t 8)), (some (121, true))⟩, ⟨(some 124), (.bin .shr (.t 123) (.c (.int .u64 4))), (some (121, true))⟩, ⟨(some 125), (.bin .add (.c (.int .i64 4)) (.t 124)), (some (121, true))⟩, ⟨(some 126), (.bin .geq (.t 122) (.t 125)), (some (121, true))⟩, ⟨(some 127), (.pick (.t 121) (.t 126) (.c (.bool false))), none⟩, ⟨(some 128), (.mov (.t 127)), none⟩, ⟨(some 129), (.mov (.t 8)), (some (128, true))⟩, ⟨(some 130), (.mov (.t 9)), (some (128, true))⟩, ⟨(some 131), (.bin .lss (.t 129) (.t 130)), (some (128, true))⟩, ⟨(some 132), (.pick (.t 128) (.t 131) (.c (.bool false))), none⟩]) (.cond (.t 132) (.seq (.ops [⟨(some 133), (.mov (.t 0)), none⟩, ⟨(some 134), (.mov (.t 8)), none⟩, ⟨(some 135), (.pu (.scut true false) [(.t 133), (.t 134)]), none⟩, ⟨(some 136), (.mov (.t 1)), none⟩, ⟨(some 137), (.call 100 [(.t 135), (.t 136)]), none⟩, ⟨(some 13), (.mov (.t 137)), none⟩]) (.seq (.seq (.ops [⟨(some 138), (.mov (.t 13)), none⟩, ⟨(some 139), (.bin .lss (.t 138) (.c (.int .i64 0))), none⟩]) (.cond (.t 139) (.seq (.ops [⟨(some 4), (.mov (.c (.int .i64 (-1)))), none⟩]) .ret) .skip)) (.seq (.ops [⟨(some 140), (.mov (.t 8)), none⟩, ⟨(some 141), (.mov (.t 13)), none⟩, ⟨(some 142), (.bin .add (.t 140) (.t 141)), none⟩, ⟨(some 4), (.mov (.t 142)), none⟩]) .ret))) .skip)))))))))))) (.seq (.ops [⟨(some 4), (.mov (.c (.int .i64 (-1)))), none⟩]) .ret))))))))))
theorem cc95 : ccode Tryd.prog (min Tryd.f95.ntmps pbase) (Tryd.f95.body.getD .skip) = some ac95 := by kernel_rfl
def ac97 : ACode := (.seq (.ops [⟨(some 4), (.mov (.c (.int .i64 0))), none⟩]) (.seq (.ops [⟨(some 5), (.mov (.t 0)), none⟩, ⟨(some 6), (.mov (.t 1)), none⟩, ⟨(some 7), (.xcall 101 [(.t 5), (.t 6)]), none⟩, ⟨(some 4), (.mov (.t 7)), none⟩]) .ret))
theorem cc97 : ccode Tryd.prog (min Tryd.f97.ntmps pbase) (Tryd.f97.body.getD .skip) = some ac97 := by kernel_rfl
end Go.Proofs.YtngfogpbljconaaDoor
namespace Go.Proofs.YtngfogpbljconaaDoor
variable [Go.Am.CodeBlk]
open Go.Am
attribute [local irreducible] AW Outs Weak Lends Lend Sp aops atree aop1 Then Round InBlock Done
theorem isGuest_spec (a b : Int) : Sp Tryd.prog 88 [.i a, .i b] (.b (decide (0 ≤ a ∧ a < b))) := by
  refine spec_of Tryd.func88 rfl cc88 rfl ?_
  unfold ac88
  by_cases h : 0 ≤ a
  all_goals
    repeat (first | (refine step_ops ?_; (first | ((try (refine g_yes rfl ?_ ?_; (· (refine decide_eq_true ?_; assumption)))); (first | (refine m_mov (by conv => lhs; whnf) ?_) | (refine m_lss rfl rfl ?_) | (refine m_geq rfl rfl ?_) | (refine m_pick_t rfl ?_ (by conv => lhs; whnf) ?_; (· (refine decide_eq_true ?_; assumption))) | (refine m_pick_f rfl ?_ (by conv => lhs; whnf) ?_; (· (refine decide_eq_false ?_; assumption))))) | (refine g_noT rfl ?_ ?_; (· (refine decide_eq_false ?_; assumption))))) | refine end_ops ?_ | refine seq_ops ?_ | refine AW_ret ?_ | refine ret_done ?_)
    refine outs_b ?_
    simp [*]
theorem isGuestCount_spec (a : Int) : Sp Tryd.prog 78 [.i a] (.b (decide (1 ≤ a ∧ a ≤ 12))) := by
  refine spec_of Tryd.func78 rfl cc78 rfl ?_
  unfold ac78
  by_cases h : 1 ≤ a
  all_goals
    repeat (first | (refine step_ops ?_; (first | ((try (refine g_yes rfl ?_ ?_; (· (refine decide_eq_true ?_; assumption)))); (first | (refine m_mov (by conv => lhs; whnf) ?_) | (refine m_leq rfl rfl ?_) | (refine m_geq rfl rfl ?_) | (refine m_pick_t rfl ?_ (by conv => lhs; whnf) ?_; (· (refine decide_eq_true ?_; assumption))) | (refine m_pick_f rfl ?_ (by conv => lhs; whnf) ?_; (· (refine decide_eq_false ?_; assumption))))) | (refine g_noT rfl ?_ ?_; (· (refine decide_eq_false ?_; assumption))))) | refine end_ops ?_ | refine seq_ops ?_ | refine AW_ret ?_ | refine ret_done ?_)
    refine outs_b ?_
    simp [*]
theorem l1In_spec (a b c : Int) : Sp Tryd.prog 64 [.i a, .i b, .i c] (.b (decide (b ≤ a ∧ a ≤ c))) := by
  refine spec_of Tryd.func64 rfl cc64 rfl ?_
  unfold ac64
  by_cases h : b ≤ a
  all_goals
    repeat (first | (refine step_ops ?_; (first | ((try (refine g_yes rfl ?_ ?_; (· (refine decide_eq_true ?_; assumption)))); (first | (refine m_mov (by conv => lhs; whnf) ?_) | (refine m_leq rfl rfl ?_) | (refine m_geq rfl rfl ?_) | (refine m_pick_t rfl ?_ (by conv => lhs; whnf) ?_; (· (refine decide_eq_true ?_; assumption))) | (refine m_pick_f rfl ?_ (by conv => lhs; whnf) ?_; (· (refine decide_eq_false ?_; assumption))))) | (refine g_noT rfl ?_ ?_; (· (refine decide_eq_false ?_; assumption))))) | refine end_ops ?_ | refine seq_ops ?_ | refine AW_ret ?_ | refine ret_done ?_)
    refine outs_b ?_
    simp [*]
theorem getD_mem {L : List Int} {k : Nat} (h : k < L.length) : L.getD k 0 ∈ L := by simp [h]
end Go.Proofs.YtngfogpbljconaaDoor
