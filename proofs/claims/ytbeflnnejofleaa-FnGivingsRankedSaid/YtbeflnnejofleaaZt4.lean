/- The abstract machine, contracts: part 4 of what this claim needs. -/
import Derived.Test.YtbeflnnejofleaaZt3
set_option linter.unusedSectionVars false
namespace Go.Am
variable [Go.Am.CodeBlk]
variable {P : Program} {own : Bool} {N : Nat} {s : AS} {K : AS → Prop} {d : Option Nat}
def nbase : Nat := 8000000
/-- A matrix asx regions: the outer slice in r0, its rows in b, b + 1, .. -/
def matH (r0 b : Nat) (rows : List (List Int)) : Hp := famH (fun r => if r = r0 then some (false, rowsC b rows) else none) b rows
theorem matH_some {r0 b r : Nat} {rows : List (List Int)} {c : Bool × List AV} (h : matH r0 b rows r = some c) : (r = r0 ∧ c = (false, rowsC b rows)) ∨ ∃ j, j < rows.length ∧ r = b + j ∧ c = (true, (rows.getD j []).map AV.i) := by
  rcases famH_some h with h1 | ⟨_, h1⟩
  · split at h1
    · rename_i e; cases h1; exact .inl ⟨e, rfl⟩
    · cases h1
  · exact .inr h1
theorem matH_outer (r0 b : Nat) (rows : List (List Int)) : matH r0 b rows r0 = some (false, rowsC b rows) := by simp [matH, famH]
theorem matH_row {r0 b : Nat} {rows : List (List Int)} {j : Nat} (h : r0 < b) (hj : j < rows.length) : matH r0 b rows (b + j) = some (true, (rows.getD j []).map AV.i) :=
  famH_row (by have : ¬ b + j = r0 := by omega
               simp [this]) hj
theorem renL_ints (f : Nat → Nat) (l : List Int) : renL f (l.map AV.i) = l.map AV.i := by
  induction l with
  | nil => rfl
  | cons x l ih => simp only [List.map_cons, renL, renV, ih]
theorem ownL_ints (q : Bool) (l : List Int) : ownL q (l.map AV.i) = true := by
  induction l with
  | nil => rfl
  | cons x l ih => simp only [List.map_cons, ownL, ownV, ih, Bool.and_self]
theorem refsL_ints (keep : Nat → Bool) (l : List Int) : refsL keep (l.map AV.i) = true := by
  induction l with
  | nil => rfl
  | cons x l ih => simp only [List.map_cons, refsL, refsV, ih, Bool.and_self]
theorem matH_own {r0 b : Nat} {rows : List (List Int)} (h : r0 < b) (r : Nat) (c : Bool × List AV) (hc : matH r0 b rows r = some c) : ownL false c.2 = true ∧ refsL (fun r => (matH r0 b rows r).isSome) c.2 = true := by
  rcases matH_some hc with ⟨rfl, rfl⟩ | ⟨j, hj, rfl, rfl⟩
  · exact ⟨rowsC_own _ _ _, rowsC_refs _ _ _ fun j hj => by rw [matH_row h hj]; rfl⟩
  · exact ⟨ownL_ints _ _, refsL_ints _ _⟩
/-- The names of a matrix handed out. -/
def gnm (q b : Nat) : Nat → Nat := fun r => if r = nbase then q else b + (r - (nbase + 1))
theorem gnm_outer (q b : Nat) : gnm q b nbase = q := if_pos rfl
theorem gnm_row (q b j : Nat) : gnm q b (nbase + 1 + j) = b + j := by
  unfold gnm
  rw [if_neg (by omega), Nat.add_sub_cancel_left]
theorem gnm_inj {q b : Nat} (hq : q < b) {rows : List (List Int)} {r r' : Nat} (h1 : (matH nbase (nbase + 1) rows r).isSome = true) (h2 : (matH nbase (nbase + 1) rows r').isSome = true) (e : gnm q b r = gnm q b r') : r = r' := by
  obtain ⟨c, hc⟩ := Option.isSome_iff_exists.1 h1
  obtain ⟨c', hc'⟩ := Option.isSome_iff_exists.1 h2
  rcases matH_some hc with ⟨rfl, _⟩ | ⟨j, hj, rfl, _⟩
  · rcases matH_some hc' with ⟨rfl, _⟩ | ⟨j', hj', rfl, _⟩
    · rfl
    · rw [gnm_outer, gnm_row] at e; omega
  · rcases matH_some hc' with ⟨rfl, _⟩ | ⟨j', hj', rfl, _⟩
    · rw [gnm_outer, gnm_row] at e; omega
    · rw [gnm_row, gnm_row] at e; omega
theorem gnm_cells (q b : Nat) (rows : List (List Int)) : renL (gnm q b) (rowsC (nbase + 1) rows) = rowsC b rows := rowsC_ren _ _ _ _ fun j _ => gnm_row q b j
theorem gnm_hp {q b : Nat} {rows : List (List Int)} {hp : Hp} (h0 : hp q = some (false, rowsC b rows)) (hr : ∀ j, j < rows.length → hp (b + j) = some (true, (rows.getD j []).map AV.i)) (r : Nat) (c : Bool × List AV) (hc : matH nbase (nbase + 1) rows r = some c) :
    hp (gnm q b r) = some (renR (gnm q b) c) := by
  rcases matH_some hc with ⟨rfl, rfl⟩ | ⟨j, hj, rfl, rfl⟩
  · rw [gnm_outer, h0]
    simp only [renR]
    rw [gnm_cells]
  · rw [gnm_row, hr j hj]
    simp only [renR]
    rw [renL_ints]
abbrev matO (rows : List (List Int)) : Hp := matH nbase (nbase + 1) rows
theorem static_mat1 (rows : List (List Int)) : Static (fun _ => none) (.sl nbase 1 0 rows.length) (matO rows) :=
  ⟨fun r h => by simp at h, matH_own (by omega), by simp [ownV], by simp [refsV, matO, matH_outer]⟩
theorem static_mat2 (rows : List (List Int)) (x : Value) : Static (fun _ => none) (.tup [.sl nbase 1 0 rows.length, .v x]) (matO rows) :=
  ⟨fun r h => by simp at h, matH_own (by omega), by simp [ownV, ownL], by simp [refsV, refsL, matO, matH_outer]⟩
/-- A matrix is handed out. -/
theorem ret_mat {r0 b : Nat} {rows : List (List Int)} {ts : List Nat} {res : AV} (hr0 : r0 < b) (hpb : r0 < pbase) (hb : b + rows.length ≤ pbase)
    (h1 : resAV s ts = renV (gnm r0 b) res) (h0 : s.hp r0 = some (false, rowsC b rows)) (hrow : ∀ j, j < rows.length → s.hp (b + j) = some (true, (rows.getD j []).map AV.i)) : DoneH ts res (fun _ => none) (matO rows) .ret s := by
  refine ret_doneh (gnm r0 b) h1 (fun r c hc => ⟨_, gnm_hp h0 hrow r c hc, .inl rfl⟩) (fun r hr => by simp at hr) (fun r hr _ => ?_) fun r r' h2 h3 e => gnm_inj hr0 h2 h3 e
  obtain ⟨c, hc⟩ := Option.isSome_iff_exists.1 hr
  rcases matH_some hc with ⟨rfl, _⟩ | ⟨j, hj, rfl, _⟩
  · rw [gnm_outer]; exact hpb
  · rw [gnm_row]; omega
/-- An empty one. -/
theorem ret_mat0 {r0 : Nat} {fl : Bool} {ts : List Nat} {res : AV} (hpb : r0 < pbase) (h1 : resAV s ts = renV (gnm r0 (r0 + 1)) res) (h0 : s.hp r0 = some (fl, [])) : DoneH ts res (fun _ => none) (matO []) .ret s := by
  refine ret_doneh (gnm r0 (r0 + 1)) h1 (fun r c hc => ?_) (fun r hr => by simp at hr) (fun r hr _ => ?_) fun r r' h2 h3 e => gnm_inj (by omega) h2 h3 e
  · rcases matH_some hc with ⟨rfl, rfl⟩ | ⟨j, hj, _⟩
    · exact ⟨_, by rw [gnm_outer]; exact h0, .inr ⟨rfl, rfl⟩⟩
    · simp at hj
  · obtain ⟨c, hc⟩ := Option.isSome_iff_exists.1 hr
    rcases matH_some hc with ⟨rfl, _⟩ | ⟨j, hj, _⟩
    · rw [gnm_outer]; exact hpb
    · simp at hj
/-- A matrix that is read; one of new memory that is read. -/
abbrev roM (rows : List (List Int)) : AV := .ro false 1 (rows.map ints) rows.length
abbrev roF (rows : List (List Int)) : AV := .ro true 1 (rows.map newInts) rows.length
theorem roM_at {rows : List (List Int)} {k : Nat} (h : k < rows.length) : ((rows.map ints).drop k)[0]? = some (ints (rows.getD k [])) := by simp [h]
theorem lend_roM {hp : Hp} {fr fr2 : Bool} {n : Nat} {rows : List (List Int)} (hn : n = rows.length) : Lend hp (.ro fr 1 (rows.map fun l => .ro fr2 1 (l.map AV.i) l.length) n) (roM rows) := by
  subst hn
  intro w0 mu N tm w phi ro v hS h
  simp only [SimV] at h ⊢
  rcases h with ⟨h1, h2, a, c, h3, _⟩ | ⟨b, o, cap, cur, e, fz, h1, h2, h3, h4, h5, _, h6⟩
  · have : rows = [] := List.eq_nil_of_length_eq_zero h1
    subst this
    exact .inl ⟨rfl, rfl, a, c, h3, by simp⟩
  · refine .inr ⟨b, o, cap, cur, e, fz, h1, h2, hS.rob b h3, by simp, h5, by simp, ?_⟩
    refine SimL.of_get fun j x hj => ?_
    rw [List.getElem?_map, Option.map_eq_some_iff] at hj
    obtain ⟨l, hl, rfl⟩ := hj
    obtain ⟨y, k1, k2⟩ := h6.get (i := j) (a := .ro fr2 1 (l.map AV.i) l.length) (by rw [List.getElem?_map, hl]; rfl)
    refine ⟨y, k1, ?_⟩
    simp only [SimV] at k2 ⊢
    rcases k2 with ⟨g1, g2, a', c', g3, _⟩ | ⟨b', o', cap', cur', e', fz', g1, g2, g3, g4, g5, _, g6⟩
    · exact .inl ⟨g1, g2, a', c', g3, by simp⟩
    · exact .inr ⟨b', o', cap', cur', e', fz', g1, g2, hS.rob b' g3, g4, g5, by simp, simL_allv (allv_ints l) g6⟩
theorem ob_ints {G : Prop} {l : List Int} {o : Obj} (h : ((true, l.map AV.i) : Bool × List AV) = (true, [.ob o])) : G := by
  simp only [Prod.mk.injEq, true_and] at h
  cases l with
  | nil => simp at h
  | cons x l => simp at h
/-- A matrix handed out, read. -/
theorem simv_roF {w w' : World} {phi : Nat → Option Nat} {rows : List (List Int)} {v : Value} (h1 : ∀ r b, (matO rows r).isSome = true → phi r = some b → w.heap.size ≤ b) (h2 : Regs (ctxX w w' phi (matO rows)) (matO rows)) (h3 : SimV (.sl nbase 1 0 rows.length) (ctxX w w' phi (matO rows)) v) : SimV (roF rows) (fresh w w') v := by
  simp only [SimV] at h3 ⊢
  rcases h3.2.2 with ⟨k1, _, k3, k4⟩ | ⟨b', o, cap, cur, e, k1, k2, k3, k4, k5, k6, k7⟩
  · have : rows = [] := List.eq_nil_of_length_eq_zero k3
    subst this
    exact .inl ⟨rfl, rfl, none, 0, by simpa using k4, by simp⟩
  · have ho : o = 0 := by
      rcases k4 with k4 | k4
      · exact k4
      · omega
    subst ho
    have hb := h1 nbase b' (by rw [matO, matH_outer]; rfl) k1
    have k3' : w'.heap[b']? = some (.cells cur e (0, 0)) := k3
    refine .inr ⟨b', 0, cap, cur, e, (0, 0), k2, k3', ⟨hb, lt_of_get k3'⟩, by simp, k5, fun _ => ⟨hb, rfl, rfl, k6, by omega⟩, ?_⟩
    rcases h2 nbase _ (matH_outer _ _ _) with ⟨g1, _⟩ | ⟨b2, cur2, e2, g1, g2, g3⟩ | ⟨b2, o2, h0, _⟩
    case inr.inr => cases h0
    · have : phi nbase = some b' := k1
      have g1' : phi nbase = none := g1
      rw [g1'] at this; cases this
    · have g1' : phi nbase = some b2 := g1
      have k1' : phi nbase = some b' := k1
      rw [g1'] at k1'
      cases k1'
      have g2' : w'.heap[b']? = some (.cells cur2 e2 (0, 0)) := g2
      rw [k3'] at g2'
      cases g2'
      simp only [SimR, Bool.false_eq_true, if_false] at g3
      rw [List.drop_zero]
      refine SimL.of_get fun j x hj => ?_
      rw [List.getElem?_map, Option.map_eq_some_iff] at hj
      obtain ⟨l, hl, rfl⟩ := hj
      have hjl := (List.getElem?_eq_some_iff.1 hl).1
      have e1 : rows.getD j [] = l := by rw [List.getD_eq_getElem?_getD, hl]; rfl
      obtain ⟨y, m1, m2⟩ := g3.get (rowsC_get (nbase + 1) rows j hjl)
      refine ⟨y, m1, ?_⟩
      rw [e1] at m2
      simp only [SimV] at m2 ⊢
      rcases m2.2.2 with ⟨n1, _, n3, n4⟩ | ⟨b3, o3, cap3, cur3, e3, n1, n2, n3, n4, n5, n6, n7⟩
      · have : l = [] := List.eq_nil_of_length_eq_zero n3
        subst this
        exact .inl ⟨rfl, rfl, none, 0, by simpa using n4, by simp⟩
      · have ho3 : o3 = 0 := by
          rcases n4 with n4 | n4
          · exact n4
          · omega
        subst ho3
        have hrow := matH_row (r0 := nbase) (b := nbase + 1) (rows := rows) (by omega) hjl
        have hb3 := h1 (nbase + 1 + j) b3 (by rw [matO, hrow]; rfl) n1
        have n3' : w'.heap[b3]? = some (.cells cur3 e3 (0, 0)) := n3
        refine .inr ⟨b3, 0, cap3, cur3, e3, (0, 0), n2, n3', ⟨hb3, lt_of_get n3'⟩, by simp, n5, fun _ => ⟨hb3, rfl, rfl, n6, by omega⟩, ?_⟩
        rcases h2 _ _ hrow with ⟨g4, _⟩ | ⟨b4, cur4, e4, g4, g5, g6⟩ | ⟨b4, o4, h0, _⟩
        case inr.inr => exact ob_ints h0
        · have n1' : phi (nbase + 1 + j) = some b3 := n1
          have g4' : phi (nbase + 1 + j) = none := g4
          rw [g4'] at n1'; cases n1'
        · have g4' : phi (nbase + 1 + j) = some b4 := g4
          have n1' : phi (nbase + 1 + j) = some b3 := n1
          rw [g4'] at n1'
          cases n1'
          have g5' : w'.heap[b3]? = some (.cells cur4 e4 (0, 0)) := g5
          rw [n3'] at g5'
          cases g5'
          simp only [SimR, if_true] at g6
          rw [e1] at g6
          rw [List.drop_zero]
          exact simL_allv (allv_ints l) g6
theorem sp_mat2 {f : FuncId} {asx : List AV} {rows : List (List Int)} {x : Value} (h : SpH P f asx (fun _ => none) (.tup [.sl nbase 1 0 rows.length, .v x]) (matO rows)) : Sp P f asx (.tup [roF rows, .v x]) := by
  refine spH_sp h fun w w' phi v h1 h2 h3 => ?_
  rw [SimV] at h3 ⊢
  obtain ⟨a, k1, k2, k3⟩ := h3
  refine ⟨a, k1, k2, ?_⟩
  match hl : a.toList with
  | [] => rw [hl] at k3; simp [SimL] at k3
  | [_] => rw [hl] at k3; simp [SimL] at k3
  | u :: v :: rest =>
    rw [hl] at k3
    rw [SimL, SimL] at k3 ⊢
    exact ⟨simv_roF h1 h2 k3.1, by simpa [SimV] using k3.2.1, by simp [SimL]⟩
end Go.Am
namespace Go.Am
variable [Go.Am.CodeBlk]
variable {P : Program} {own : Bool} {N : Nat} {s : AS} {K : AS → Prop} {d : Option Nat}
/-- A region told otherwise, its block being what it was. -/
theorem weak_recell {s : AS} {r : Nat} {c c' : Bool × List AV} (hr : s.hp r = some c) (hne : c.2 ≠ []) (hno : ∀ o, c ≠ (true, [.ob o]))
    (h : ∀ (w0 : World) (mu : Nat → Option Nat) (N : Nat) (tm : Array Value) (w : World) (phi : Nat → Option Nat) (ro : Nat → Prop) (cur : Array Value), Sim w0 mu N s tm w phi ro → SimR c (ctx w0 w ro phi s) cur.toList → SimR c' (ctx w0 w ro phi s) cur.toList) : Weak s (s.mem r c') := by
  intro w0 mu N a w hS
  obtain ⟨hf, phi, ro, hS⟩ := hS
  rcases hS.liv r c hr with ⟨_, h2, _⟩ | ⟨b, cur, e, h1, h2, h3, h4, h5⟩ | ⟨b, o, h0, _⟩
  · exact absurd h2 hne
  case inr.inr => exact absurd h0 (hno o)
  · exact ⟨hf, phi, ro, hS.write hr h1 h2 h2 rfl (fun _ _ _ => rfl) rfl rfl rfl (Nat.le_refl _) (h w0 mu N a.tmps w phi ro cur hS h5)⟩
/-- Plain cells may be told asx cells that may lead to regions. -/
theorem weak_deep {r : Nat} {cs : List AV} (hr : s.hp r = some (true, cs)) (hne : cs ≠ []) (hpl : cs.all plainV = true) : Weak s (s.mem r (false, cs)) := by
  refine weak_recell hr hne (fun o h => by cases h; simp [plainV] at hpl) fun w0 mu N tm w phi ro cur _ h => ?_
  simp only [SimR, if_true, Bool.false_eq_true, if_false] at h ⊢
  exact simL_allv hpl h
end Go.Am
namespace Go.Am
variable [Go.Am.CodeBlk]
variable {s : AS}
theorem mem_self {r : Nat} {c : Bool × List AV} (hr : s.hp r = some c) : s.mem r c = s := by
  obtain ⟨tm, hp⟩ := s
  simp only [AS.mem, AS.mk.injEq, true_and]
  funext q
  by_cases h : q = r
  · subst h; simp only [if_true]; exact hr.symm
  · simp [h]
/-- A region's last cells are forgotten. -/
theorem weak_shrink (r n : Nat) {cs : List AV} (hr : s.hp r = some (true, cs)) (hpl : cs.all plainV = true) : Weak s (s.mem r (true, cs.take n)) := by
  intro w0 mu N a w hS
  obtain ⟨hf, phi, ro, hS⟩ := hS
  rcases hS.liv r _ hr with ⟨_, h2, _⟩ | ⟨b, cur, e, h1, h2, h3, h4, h5⟩ | ⟨b, o, h0, _⟩
  · simp only at h2
    subst h2
    rw [List.take_nil, mem_self hr]
    exact ⟨hf, phi, ro, hS⟩
  · refine ⟨hf, _, ro, hS.write hr h1 h2 h2 rfl (fun _ _ _ => rfl) rfl rfl rfl (Nat.le_refl _) ?_⟩
    simp only [SimR, if_true] at h5 ⊢
    exact h5.take n
  · cases h0
    simp [plainV] at hpl
end Go.Am
namespace Go.Am
variable [Go.Am.CodeBlk]
/-- A function value bears its first arguments; what it bears, a callee may read asx it is. -/
def Bears (fl : List AV) : Prop := ∀ hp, ∀ x ∈ fl, Lend hp x x
theorem lends_bears {fl : List AV} (h : Bears fl) (hp : Hp) {xs ys : List AV} (k : Lends hp xs ys) : Lends hp (fl ++ xs) (fl ++ ys) := by
  induction fl with
  | nil => exact k
  | cons a l ih => exact lends_cons (h hp a (by simp)) (ih fun hp x hx => h hp x (by simp [hx]))
theorem bears_agg {l : List AV} (h : l.all plainV = true) : Bears [.agg l] := by
  intro hp x hx
  rw [List.mem_singleton.1 hx]
  exact lend_agg h
theorem lend_fn {hp : Hp} {f : FuncId} {l m : List AV} {k : Nat} (h : Lends hp l m) : Lend hp (.fn f l k) (.fn f m k) := by
  intro w0 mu N tm w phi ro v hS hv
  simp only [SimV] at hv ⊢
  obtain ⟨a, b, h1, h2, h3, h4⟩ := hv
  obtain ⟨h5, h6⟩ := h w0 mu N tm w phi ro (a.toList ++ b.toList) hS h4 (by simpa using h3)
  exact ⟨a, b, h1, h2, by simpa using h6, h5⟩
theorem lend_bears {hp : Hp} {f : FuncId} {fl : List AV} {k : Nat} (h : Bears fl) : Lend hp (.fn f fl k) (.fn f fl k) := by
  have := lends_bears h hp lends_nil
  simp only [List.append_nil] at this
  exact lend_fn this
theorem refsL_plain {keep : Nat → Bool} {l : List AV} (h : l.all plainV = true) : refsL keep l = true := by
  induction l with
  | nil => simp [refsL]
  | cons a l ih =>
    simp only [List.all_cons, Bool.and_eq_true] at h
    simp only [refsL, ih h.2, Bool.and_true]
    cases a <;> simp [plainV] at h <;> simp [refsV]
theorem killL_plain {r : Nat} {l : List AV} (h : l.all plainV = true) : killL r l = l := by
  induction l with
  | nil => simp [killL]
  | cons a l ih =>
    simp only [List.all_cons, Bool.and_eq_true] at h
    simp only [killL, ih h.2]
    cases a <;> simp [plainV] at h <;> simp [killV]
theorem killL_aggs {r : Nat} {l : List AV} (h : l.all plainV = true) : killL r [.agg l] = [.agg l] := by simp only [killL, killV, killL_plain h]
theorem refsL_aggs {keep : Nat → Bool} {l : List AV} (h : l.all plainV = true) : refsL keep [.agg l] = true := by simp only [refsL, refsV, refsL_plain h, Bool.and_true]
section
variable {s : AS}
theorem tm_put_ne' {d t : Nat} {x : AV} (h : t ≠ d) : (s.put (some d) x).tm t = s.tm t := by simp [AS.put, h]
theorem tm_put_none {t : Nat} {x : AV} : (s.put none x).tm t = s.tm t := rfl
theorem tm_mem {r t : Nat} {c : Bool × List AV} : (s.mem r c).tm t = s.tm t := rfl
theorem tm_kill {r t : Nat} : (s.kill r).tm t = killV r (s.tm t) := rfl
theorem tm_mv {r q t : Nat} {c : List AV} : (s.mv r q c).tm t = mvV r q (s.tm t) := rfl
theorem tm_st {l : List (Nat × AV)} {h : List (Nat × (Bool × List AV))} {t : Nat} : (st l h).tm t = (look l t).getD .any := rfl
theorem tm_en0 {a : AV} {l : List AV} : (enter0 (a :: l)).tm 0 = a := rfl
theorem tm_en1 {a b : AV} {l : List AV} : (enter0 (a :: b :: l)).tm 1 = b := rfl
theorem tm_en2 {a b c : AV} {l : List AV} : (enter0 (a :: b :: c :: l)).tm 2 = c := rfl
theorem tm_en3 {a b c d : AV} {l : List AV} : (enter0 (a :: b :: c :: d :: l)).tm 3 = d := rfl
theorem tm_en4 {a b c d e : AV} {l : List AV} : (enter0 (a :: b :: c :: d :: e :: l)).tm 4 = e := rfl
end
section
variable {f : FuncId} {fl : List AV} {k r q : Nat}
theorem kill_fn (h : ∀ r, killL r fl = fl) : killV r (.fn f fl k) = .fn f fl k := by simp only [killV, h]
theorem mv_fn (h : ∀ r, killL r fl = fl) : mvV r q (.fn f fl k) = .fn f fl k := by simp only [mvV, killV, h]
end
/-- May a function value be asked whether a guest fits behind a list? It answers asx 'fits' says. -/
structure Asks (P : Program) (f : FuncId) (fl : List AV) (n : Nat) (fits : List Int → Nat → Bool) : Prop where
  call : Callable P f
  bears : Bears fl
  norefs : ∀ keep, refsL keep fl = true
  nokill : ∀ r, killL r fl = fl
  spec : ∀ (M : List Int) (y : Nat), M.length < n → (∀ x ∈ M, 0 ≤ x ∧ x < n) → y < n → Sp P f (fl ++ [ints M, .i y]) (.b (fits M y))
theorem asks_lend {s : AS} {fl : List AV} {args : List Opd} {xs ys : List AV} (h : Bears fl) (he : args.map s.ev = xs) (k : Lends s.hp xs ys) : Lends s.hp (fl.take fl.length ++ args.map s.ev ++ fl.drop fl.length) (fl ++ ys) := by
  rw [he, List.take_length, List.drop_length, List.append_nil]
  exact lends_bears h _ k
/- Boards asx texts. -/
end Go.Am
namespace Go.Proofs.Ytbeflnnejofleaa
variable [Go.Am.CodeBlk]
open Go.Am
attribute [local irreducible] AW Outs Weak Lends Lend Sp aops atree aop1 Then Round InBlock Done
def kinCells (F : List Int) : List Int := F ++ List.replicate (9 - F.length) 0
def kinV (F : List Int) : List AV := AV.i F.length :: (kinCells F).map AV.i
theorem kinCells_len {F : List Int} (h : F.length ≤ 9) : (kinCells F).length = 9 := by simp [kinCells]; omega
theorem kinV_len {F : List Int} (h : F.length ≤ 9) : (kinV F).length = 10 := by simp [kinV, kinCells_len h]
theorem kinCells_get {F : List Int} {k : Nat} (h : k < F.length) : (kinCells F).getD k 0 = F.getD k 0 := by
  simp [kinCells, List.getElem?_append, h]
theorem kinV_ok (F : List Int) (fl : Bool) : (kinV F).all (cellOk fl) = true := by simp [kinV, cellOk, Value.oneCell']
theorem kinV_plain (F : List Int) : (kinV F).all plainV = true := by simp [kinV, plainV]
theorem kinOf_spec (F : List Int) (h : IsFam F) : Sp Try.prog 27 [ints F] (.agg (kinV F)) := by
  have h9 := h.2.1
  have hl := kinV_len h9
  refine specC_of Try.func27 rfl cc27 (by set_option maxRecDepth 100000 in rfl) ?_
  unfold ac27
  repeat (first | (refine step_ops ?_; (first | (refine m_mov (by conv => lhs; whnf) ?_) | (refine m_len_ro rfl ?_) | (refine m_alloc ?_) | (refine m_fa rfl ?_) | (refine m_bld_1 (by conv => lhs; whnf) (by decide)  (by rfl) ?_) | (refine m_stall rfl rfl rfl ?_ ?_ ?_ ?_; (· first | rfl | (simp [*]; done)); (· first | rfl | (simp [*]; done)); (· first | rfl | (simp [cellOk, Value.oneCell']; done))))) | refine end_ops ?_ | refine seq_ops ?_)
  refine step_ops ?_
  refine m_acut_off rfl rfl (by decide) (Nat.le_of_ble_eq_true rfl) ?_
  repeat (refine step_ops ?_; (refine m_mov (by conv => lhs; whnf) ?_))
  refine step_ops ?_
  refine m_cpy (ys := F.map AV.i) (m := F.length) rfl rfl (Nat.le_of_ble_eq_true rfl) (Elems.ro false _ _) (by simp) (by simp [cellOk, Value.oneCell']) h9 ?_
  refine end_ops ?_
  have hc : (([AV.i F.length, .i 0, .i 0, .i 0, .i 0, .i 0, .i 0, .i 0, .i 0, .i 0] : List AV).take (0 + 1) ++ F.map AV.i ++ ([AV.i F.length, .i 0, .i 0, .i 0, .i 0, .i 0, .i 0, .i 0, .i 0, .i 0] : List AV).drop (0 + 1 + F.length)) = kinV F := by
    have e : ([AV.i F.length, .i 0, .i 0, .i 0, .i 0, .i 0, .i 0, .i 0, .i 0, .i 0] : List AV) = AV.i F.length :: List.replicate 9 (AV.i 0) := rfl
    rw [e, Nat.add_comm (0 + 1)]
    unfold kinV kinCells
    rw [List.map_append, List.map_replicate]
    show AV.i _ :: (F.map AV.i ++ (List.replicate 9 (AV.i 0)).drop F.length) = _
    rw [List.drop_replicate]
  refine AW_weak (s' := st [(2, .pt 2 0), (3, .pt 3 0)] [(2, (true, [.i 0, .i 0, .i 0, .i 0, .i 0, .i 0, .i 0, .i 0, .i 0, .i 0])), (3, (true, kinV F))]) (weak_st ?_ ?_ rfl rfl) ?_
  · (repeat' (first | exact trivial | refine And.intro ?_ ?_)) <;> (first | rfl | skip)
  · refine ⟨rfl, ?_, trivial⟩
    rw [← hc]; rfl
  repeat (first | (refine step_ops ?_; (refine m_ldall rfl rfl ?_ ?_; (· first | rfl | (simp; done) | (simp [*]; done)))) | refine seq_ops ?_)
  refine step_ops ?_
  refine m_stall rfl rfl rfl hl rfl (kinV_ok F true) ?_
  repeat (first | refine end_ops ?_ | refine AW_ret ?_)
  refine ret_donec rfl rfl hl (outs_agg (kinV_plain F))
theorem areApart_spec (F : List Int) (a b : Nat) (h9 : F.length ≤ 9) (ha : a < F.length) (hb : b < F.length) : Sp Try.prog 33 [.agg (kinV F), .i a, .i b] (.b (decide (F.getD a 0 ≠ F.getD b 0))) := by
  have hl := kinCells_len h9
  have e1 : (kinV F)[0 + 1 + a]? = some (AV.i (F.getD a 0)) := by
    unfold kinV; rw [show 0 + 1 + a = a + 1 by omega, List.getElem?_cons_succ, List.getElem?_map, List.getElem?_eq_getElem (by omega : a < (kinCells F).length)]
    have := kinCells_get ha
    simp only [List.getD_eq_getElem?_getD, List.getElem?_eq_getElem (by omega : a < (kinCells F).length), Option.getD_some] at this
    rw [Option.map_some, this, List.getD_eq_getElem?_getD]
  have e2 : (kinV F)[0 + 1 + b]? = some (AV.i (F.getD b 0)) := by
    unfold kinV; rw [show 0 + 1 + b = b + 1 by omega, List.getElem?_cons_succ, List.getElem?_map, List.getElem?_eq_getElem (by omega : b < (kinCells F).length)]
    have := kinCells_get hb
    simp only [List.getD_eq_getElem?_getD, List.getElem?_eq_getElem (by omega : b < (kinCells F).length), Option.getD_some] at this
    rw [Option.map_some, this, List.getD_eq_getElem?_getD]
  refine spec_of Try.func33 rfl cc33 rfl ?_
  unfold ac33
  repeat refine seq_ops ?_
  refine step_ops ?_
  refine m_box rfl (kinV_ok F true) ?_
  repeat (first | ((first | refine step_ops ?_ | refine step_tree ?_); (first | (refine m_mov (by conv => lhs; whnf) ?_) | (refine m_arro rfl rfl ?_ ?_; (· omega)) | (refine m_fa rfl ?_))) | refine end_ops ?_ | refine seq_tree ?_)
  refine step_tree ?_
  refine m_ld_pt rfl rfl e1 ?_
  repeat (refine step_tree ?_; (first | (refine m_mov (by conv => lhs; whnf) ?_) | (refine m_arro rfl rfl ?_ ?_; (· omega)) | (refine m_fa rfl ?_)))
  refine step_tree ?_
  refine m_ld_pt rfl rfl e2 ?_
  repeat (first | (refine step_tree ?_; (first | (refine m_mov (by conv => lhs; whnf) ?_) | (refine m_neq rfl rfl ?_))) | refine end_tree ?_ | refine AW_ret ?_ | refine ret_done ?_)
  exact outs_b rfl
end Go.Proofs.Ytbeflnnejofleaa
namespace Go.Proofs.Ytbeflnnejofleaa
variable [Go.Am.CodeBlk]
open Go.Am
attribute [local irreducible] AW Outs Weak Lends Lend Sp aops atree aop1 Then Round InBlock Done
/-- Whether guests get no gift of their own family. -/
def apart (F L : List Int) : Prop := ∀ k, k < L.length → F.getD k 0 ≠ F.getD (L.getD k 0).toNat 0
instance (F L : List Int) : Decidable (apart F L) := inferInstanceAs (Decidable (∀ k, k < L.length → _))
def Givers (F L : List Int) : Prop := IsFam F ∧ IsEx L ∧ F.length = L.length
instance (F L : List Int) : Decidable (Givers F L) := inferInstanceAs (Decidable (_ ∧ _ ∧ _))
def isGivingR (F L : List Int) : AV := .tup [.b (decide (Givers F L ∧ apart F L)), .b (decide (Givers F L))]
theorem giBoth_spec (F L : List Int) (hF : F.length ≤ 1048576) (hL : L.length ≤ 1048576) : Sp Try.prog 29 [ints F, ints L] (.b (decide (Givers F L))) := by
  refine spec_of Try.func29 rfl cc29 rfl ?_
  unfold ac29
  by_cases h1 : IsFam F
  all_goals by_cases h2 : IsEx L
  all_goals
    repeat (first | (refine step_ops ?_; (refine m_mov (by conv => lhs; whnf) ?_)) | refine end_ops ?_ | refine seq_ops ?_)
    (refine step_ops ?_); (apply m_call (giGood_spec _ hF)); (· repeat (first | exact lends_nil | (refine lends_cons ?_ ?_; (· (refine lend_ints ?_; first | rfl | omega)))))
    repeat (first | (refine step_ops ?_; (first | ((try (refine g_yes rfl ?_ ?_; (· (refine decide_eq_true ?_; assumption)))); (first | (refine m_mov (by conv => lhs; whnf) ?_) | (refine m_pick_f rfl ?_ (by conv => lhs; whnf) ?_; (· first | rfl | (refine decide_eq_false ?_; assumption))))) | (refine g_noT rfl ?_ ?_; (· first | rfl | (refine decide_eq_false ?_; assumption))))) | refine end_ops ?_ | refine AW_ret ?_ | refine ret_done ?_)
    first | ((refine step_ops ?_); (refine g_yes rfl ?_ ?_; (· first | ((refine decide_eq_true ?_; assumption)) | (fail)); (apply m_call (exGood_spec _ hL))); (· repeat (first | exact lends_nil | (refine lends_cons ?_ ?_; (· (refine lend_ints ?_; first | rfl | omega)))))) | skip
    repeat (first | (refine step_ops ?_; (first | ((try (refine g_yes rfl ?_ ?_; (· (refine decide_eq_true ?_; assumption)))); (first | (refine m_mov (by conv => lhs; whnf) ?_) | (refine m_eql rfl rfl ?_) | (refine m_len_ro rfl ?_) | (refine m_pick_t rfl ?_ (by conv => lhs; whnf) ?_; (· (refine decide_eq_true ?_; assumption))) | (refine m_pick_f rfl ?_ (by conv => lhs; whnf) ?_; (· (refine decide_eq_false ?_; assumption))))) | (refine g_noT rfl ?_ ?_; (· (refine decide_eq_false ?_; assumption))))) | refine end_ops ?_ | refine AW_ret ?_ | refine ret_done ?_)
    refine outs_b ?_
    unfold Givers
    simp [h1, h2]
    try omega
theorem areGivers_spec (F L : List Int) (hF : F.length ≤ 1048576) (hL : L.length ≤ 1048576) : Sp Try.prog 26 [ints F, ints L] (.b (decide (Givers F L))) := by
  refine spec_of Try.func26 rfl cc26 rfl ?_
  unfold ac26
  by_cases h1 : IsFam F
  all_goals by_cases h2 : IsEx L
  all_goals
    repeat (first | (refine step_ops ?_; (refine m_mov (by conv => lhs; whnf) ?_)) | refine end_ops ?_ | refine seq_ops ?_)
    (refine step_ops ?_); (apply m_call (implAreFam_spec _ hF)); (· repeat (first | exact lends_nil | (refine lends_cons ?_ ?_; (· (refine lend_ints ?_; first | rfl | omega)))))
    repeat (first | (refine step_ops ?_; (first | ((try (refine g_yes rfl ?_ ?_; (· (refine decide_eq_true ?_; assumption)))); (first | (refine m_mov (by conv => lhs; whnf) ?_) | (refine m_pick_f rfl ?_ (by conv => lhs; whnf) ?_; (· first | rfl | (refine decide_eq_false ?_; assumption))))) | (refine g_noT rfl ?_ ?_; (· first | rfl | (refine decide_eq_false ?_; assumption))))) | refine end_ops ?_ | refine AW_ret ?_ | refine ret_done ?_)
    first | ((refine step_ops ?_); (refine g_yes rfl ?_ ?_; (· first | ((refine decide_eq_true ?_; assumption)) | (fail)); (apply m_call (implIsExchange_spec _ hL))); (· repeat (first | exact lends_nil | (refine lends_cons ?_ ?_; (· (refine lend_ints ?_; first | rfl | omega)))))) | skip
    repeat (first | (refine step_ops ?_; (first | ((try (refine g_yes rfl ?_ ?_; (· (refine decide_eq_true ?_; assumption)))); (first | (refine m_mov (by conv => lhs; whnf) ?_) | (refine m_eql rfl rfl ?_) | (refine m_len_ro rfl ?_) | (refine m_pick_t rfl ?_ (by conv => lhs; whnf) ?_; (· (refine decide_eq_true ?_; assumption))) | (refine m_pick_f rfl ?_ (by conv => lhs; whnf) ?_; (· (refine decide_eq_false ?_; assumption))))) | (refine g_noT rfl ?_ ?_; (· (refine decide_eq_false ?_; assumption))))) | refine end_ops ?_ | refine AW_ret ?_ | refine ret_done ?_)
    refine outs_b ?_
    unfold Givers
    simp [h1, h2]
    try omega
theorem giIs_spec (F L : List Int) (h : Givers F L) : Sp Try.prog 30 [ints F, ints L] (.b (decide (apart F L))) := by
  have h12 := h.2.1.2.1
  have hx := h.2.1.2.2.1
  have hlen := h.2.2
  refine spec_of Try.func30 rfl cc30 rfl ?_
  unfold ac30
  repeat (first | (refine step_ops ?_; (first | (refine m_mov (by conv => lhs; whnf) ?_) | (refine m_len_ro rfl ?_))) | refine end_ops ?_ | refine seq_ops ?_ | refine AW_seq ?_ | refine AW_block ?_)
  refine AW_loop (α := Nat) (fun k => k ≤ L.length ∧ ∀ j, j < k → F.getD j 0 ≠ F.getD (L.getD j 0).toNat 0) (fun k => st [(0, ints F), (7, ints L), (8, .i L.length), (9, .i k)] []) (fun k => L.length - k) 0 (by simp) (weak_st ?_ ?_ rfl rfl) ?_
  · (repeat' (first | exact trivial | refine And.intro ?_ ?_)) <;> (first | rfl | skip)
  · trivial
  rintro k ⟨hk, ha⟩
  by_cases hc : k < L.length
  · have hr := hx _ (getD_mem hc)
    obtain ⟨j, hj⟩ := Int.eq_ofNat_of_zero_le hr.1
    by_cases he : F.getD k 0 = F.getD j 0
    · repeat (first | ((first | refine step_ops ?_ | refine step_tree ?_); (first | (refine m_mov (by conv => lhs; whnf) ?_) | (refine m_lss rfl rfl ?_) | (refine m_eql rfl rfl ?_) | (refine m_idx1_ro rfl rfl ?_ ?_; (· omega)) | (apply m_idx1_roj; (· rfl); (· rfl); (· assumption); (· omega)) | (refine m_ld_rpi rfl ?_ ?_; (· omega)))) | refine end_ops ?_ | refine seq_ops ?_ | refine end_tree ?_ | refine seq_tree ?_ | (refine cond_t rfl ?_ ?_; (· first | (refine decide_eq_true ?_; assumption) | (refine decide_eq_true ?_; omega))) | refine skip_then ?_ | refine AW_seq ?_ | refine AW_ret ?_ | refine ret_done ?_ | refine ret_then ?_ | refine AW_block ?_ | refine ret_block ?_ | refine ret_round ?_)
      refine outs_b ?_
      symm
      refine decide_eq_false fun hh => hh k hc ?_
      rw [hj, Int.toNat_natCast]; exact he
    · repeat (first | ((first | refine step_ops ?_ | refine step_tree ?_); (first | (refine m_mov (by conv => lhs; whnf) ?_) | (refine m_lss rfl rfl ?_) | (refine m_eql rfl rfl ?_) | (refine m_add rfl rfl ?_ ?_ ?_; (· omega); (· omega)) | (refine m_idx1_ro rfl rfl ?_ ?_; (· omega)) | (apply m_idx1_roj; (· rfl); (· rfl); (· assumption); (· omega)) | (refine m_ld_rpi rfl ?_ ?_; (· omega)))) | refine end_ops ?_ | refine seq_ops ?_ | refine AW_ops ?_ | refine end_tree ?_ | refine seq_tree ?_ | (refine cond_t rfl ?_ ?_; (· (refine decide_eq_true ?_; omega))) | (refine cond_f rfl ?_ ?_; (· (refine decide_eq_false ?_; assumption))) | refine skip_then ?_ | refine AW_seq ?_ | refine norm_then ?_ | refine AW_block ?_ | refine norm_block ?_ | refine AW_skip ?_)
      refine next_round (k + 1) ⟨by omega, fun i hi => ?_⟩ (weak_st ?_ ?_ rfl rfl) ?_
      · by_cases hik : i = k
        · subst hik; rw [hj, Int.toNat_natCast]; exact he
        · exact ha i (by omega)
      · (repeat' (first | exact trivial | refine And.intro ?_ ?_)) <;> (first | rfl | skip)
      · trivial
      · omega
  · repeat (first | (refine step_ops ?_; (first | (refine m_mov (by conv => lhs; whnf) ?_) | (refine m_lss rfl rfl ?_))) | refine end_ops ?_ | refine seq_ops ?_ | (refine cond_f rfl ?_ ?_; (· (refine decide_eq_false ?_; omega))) | refine AW_seq ?_ | refine AW_ret ?_ | refine ret_done ?_ | refine norm_then ?_ | refine exit_then ?_ | refine exit_round ?_ | refine AW_exit ?_ | refine exit_block ?_)
    refine outs_b ?_
    symm
    exact decide_eq_true fun i hi => ha i (by omega)
theorem specIsGiving_spec (F L : List Int) (hF : F.length ≤ 1048576) (hL : L.length ≤ 1048576) : Sp Try.prog 8 [ints F, ints L] (isGivingR F L) := by
  unfold isGivingR
  refine spec_of Try.func8 rfl cc8 rfl ?_
  unfold ac8
  by_cases h : Givers F L
  · repeat (first | (refine step_ops ?_; (refine m_mov (by conv => lhs; whnf) ?_)) | refine end_ops ?_ | refine seq_ops ?_ | refine AW_seq ?_)
    (refine step_ops ?_); (apply m_call (giBoth_spec _ _ hF hL)); (· repeat (first | exact lends_nil | (refine lends_cons ?_ ?_; (· (refine lend_ints ?_; first | rfl | omega)))))
    repeat (first | (refine step_ops ?_; (first | (refine m_mov (by conv => lhs; whnf) ?_) | (refine m_not rfl ?_))) | refine end_ops ?_ | refine seq_ops ?_ | (refine cond_f rfl ?_ ?_; (· (refine nf ?_; assumption))) | refine skip_then ?_)
    (refine step_ops ?_); (apply m_call (giIs_spec _ _ h)); (· repeat (first | exact lends_nil | (refine lends_cons ?_ ?_; (· (refine lend_ints ?_; first | rfl | omega)))))
    repeat (first | (refine step_ops ?_; (refine m_mov (by conv => lhs; whnf) ?_)) | refine end_ops ?_ | refine AW_ret ?_ | refine ret_done ?_)
    refine outs_tup2 (outs_b ?_) (outs_b ?_) <;> simp [h]
  · repeat (first | (refine step_ops ?_; (refine m_mov (by conv => lhs; whnf) ?_)) | refine end_ops ?_ | refine seq_ops ?_ | refine AW_seq ?_)
    (refine step_ops ?_); (apply m_call (giBoth_spec _ _ hF hL)); (· repeat (first | exact lends_nil | (refine lends_cons ?_ ?_; (· (refine lend_ints ?_; first | rfl | omega)))))
    repeat (first | (refine step_ops ?_; (first | (refine m_mov (by conv => lhs; whnf) ?_) | (refine m_not rfl ?_))) | refine end_ops ?_ | refine seq_ops ?_ | (refine cond_t rfl ?_ ?_; (· (refine nt ?_; assumption))) | refine AW_ret ?_ | refine ret_done ?_ | refine ret_then ?_)
    refine outs_tup2 (outs_b ?_) (outs_b ?_) <;> simp [h]
theorem kinIsGiving_spec (F L : List Int) (h : Givers F L) : Sp Try.prog 28 [.agg (kinV F), ints L] (.b (decide (apart F L))) := by
  have h12 := h.2.1.2.1
  have hx := h.2.1.2.2.1
  have hlen := h.2.2
  have h9 := h.1.2.1
  have hl := kinV_len h9
  have hpl := kinV_plain F
  refine spec_of Try.func28 rfl cc28 rfl ?_
  unfold ac28
  repeat refine seq_ops ?_
  refine step_ops ?_
  refine m_box rfl (kinV_ok F true) ?_
  repeat (first | (refine step_ops ?_; (first | (refine m_mov (by conv => lhs; whnf) ?_) | (refine m_len_ro rfl ?_))) | refine end_ops ?_ | refine seq_ops ?_ | refine AW_seq ?_ | refine AW_block ?_)
  refine AW_loop (α := Nat) (fun k => k ≤ L.length ∧ ∀ j, j < k → F.getD j 0 ≠ F.getD (L.getD j 0).toNat 0) (fun k => st [(2, .pt 2 0), (7, ints L), (8, .i L.length), (9, .i k)] [(2, (true, kinV F))]) (fun k => L.length - k) 0 (by simp) (weak_st ?_ ?_ rfl rfl) ?_
  · (repeat' (first | exact trivial | refine And.intro ?_ ?_)) <;> (first | rfl | skip)
  · exact ⟨rfl, trivial⟩
  rintro k ⟨hk, ha⟩
  by_cases hc : k < L.length
  · have hr := hx _ (getD_mem hc)
    obtain ⟨j, hj⟩ := Int.eq_ofNat_of_zero_le hr.1
    by_cases he : F.getD k 0 = F.getD j 0
    · repeat (first | (refine step_ops ?_; (first | (refine m_mov (by conv => lhs; whnf) ?_) | (refine m_lss rfl rfl ?_) | (refine m_idx1_ro rfl rfl ?_ ?_; (· omega)) | (refine m_ld_rpi rfl ?_ ?_; (· omega)) | (refine m_ldall rfl rfl ?_ ?_; (· first | rfl | (simp; done) | (simp [*]; done))))) | refine end_ops ?_ | refine seq_ops ?_ | (refine cond_t rfl ?_ ?_; (· (refine decide_eq_true ?_; omega))) | refine skip_then ?_ | refine AW_seq ?_ | refine AW_block ?_)
      rw [hj]
      (refine step_ops ?_); (apply m_call (areApart_spec F k j h9 (by omega) (by omega))); (· repeat (first | exact lends_nil | (refine lends_cons ?_ ?_; (· (first | exact lend_v | (refine lend_agg ?_; first | rfl | assumption | (simp [plainV]; done)))))))
      repeat (first | (refine step_ops ?_; (first | (refine m_mov (by conv => lhs; whnf) ?_) | (refine m_not rfl ?_))) | refine end_ops ?_ | refine seq_ops ?_ | (refine cond_t rfl ?_ ?_; (· (refine nt ?_; omega))) | refine AW_ret ?_ | refine ret_done ?_ | refine ret_then ?_ | refine ret_block ?_ | refine ret_round ?_)
      refine outs_b ?_
      symm
      refine decide_eq_false fun hh => hh k hc ?_
      rw [hj, Int.toNat_natCast]; exact he
    · repeat (first | (refine step_ops ?_; (first | (refine m_mov (by conv => lhs; whnf) ?_) | (refine m_lss rfl rfl ?_) | (refine m_idx1_ro rfl rfl ?_ ?_; (· omega)) | (refine m_ld_rpi rfl ?_ ?_; (· omega)) | (refine m_ldall rfl rfl ?_ ?_; (· first | rfl | (simp; done) | (simp [*]; done))))) | refine end_ops ?_ | refine seq_ops ?_ | (refine cond_t rfl ?_ ?_; (· (refine decide_eq_true ?_; omega))) | refine skip_then ?_ | refine AW_seq ?_ | refine AW_block ?_)
      rw [hj]
      (refine step_ops ?_); (apply m_call (areApart_spec F k j h9 (by omega) (by omega))); (· repeat (first | exact lends_nil | (refine lends_cons ?_ ?_; (· (first | exact lend_v | (refine lend_agg ?_; first | rfl | assumption | (simp [plainV]; done)))))))
      repeat (first | (refine step_ops ?_; (first | (refine m_mov (by conv => lhs; whnf) ?_) | (refine m_add rfl rfl ?_ ?_ ?_; (· omega); (· omega)) | (refine m_not rfl ?_))) | refine end_ops ?_ | refine AW_ops ?_ | (refine cond_f rfl ?_ ?_; (· (refine nf ?_; assumption))) | refine norm_then ?_ | refine norm_block ?_ | refine AW_skip ?_)
      refine next_round (k + 1) ⟨by omega, fun i hi => ?_⟩ (weak_st ?_ ?_ rfl rfl) ?_
      · by_cases hik : i = k
        · subst hik; rw [hj, Int.toNat_natCast]; exact he
        · exact ha i (by omega)
      · (repeat' (first | exact trivial | refine And.intro ?_ ?_)) <;> (first | rfl | skip)
      · exact ⟨rfl, trivial⟩
      · omega
  · repeat (first | (refine step_ops ?_; (first | (refine m_mov (by conv => lhs; whnf) ?_) | (refine m_lss rfl rfl ?_))) | refine end_ops ?_ | refine seq_ops ?_ | (refine cond_f rfl ?_ ?_; (· (refine decide_eq_false ?_; omega))) | refine AW_seq ?_ | refine AW_ret ?_ | refine ret_done ?_ | refine norm_then ?_ | refine exit_then ?_ | refine exit_round ?_ | refine AW_exit ?_ | refine exit_block ?_)
    refine outs_b ?_
    symm
    exact decide_eq_true fun i hi => ha i (by omega)
theorem implIsGiving_spec (F L : List Int) (hF : F.length ≤ 1048576) (hL : L.length ≤ 1048576) : Sp Try.prog 7 [ints F, ints L] (isGivingR F L) := by
  unfold isGivingR
  refine spec_of Try.func7 rfl cc7 rfl ?_
  unfold ac7
  by_cases h : Givers F L
  · repeat (first | (refine step_ops ?_; (refine m_mov (by conv => lhs; whnf) ?_)) | refine end_ops ?_ | refine seq_ops ?_ | refine AW_seq ?_)
    (refine step_ops ?_); (apply m_call (areGivers_spec _ _ hF hL)); (· repeat (first | exact lends_nil | (refine lends_cons ?_ ?_; (· (refine lend_ints ?_; first | rfl | omega)))))
    repeat (first | (refine step_ops ?_; (first | (refine m_mov (by conv => lhs; whnf) ?_) | (refine m_not rfl ?_))) | refine end_ops ?_ | refine seq_ops ?_ | (refine cond_f rfl ?_ ?_; (· (refine nf ?_; assumption))) | refine skip_then ?_)
    (refine step_ops ?_); (apply m_call (kinOf_spec _ h.1)); (· repeat (first | exact lends_nil | (refine lends_cons ?_ ?_; (· (refine lend_ints ?_; first | rfl | omega)))))
    repeat (refine step_ops ?_; (refine m_mov (by conv => lhs; whnf) ?_))
    refine step_ops ?_
    refine m_call (kinIsGiving_spec F L h) ?_ ?_
    · exact lends_cons (lend_agg (kinV_plain F)) (lends_cons (lend_ints rfl) lends_nil)
    repeat (first | (refine step_ops ?_; (refine m_mov (by conv => lhs; whnf) ?_)) | refine end_ops ?_ | refine AW_ret ?_ | refine ret_done ?_)
    refine outs_tup2 (outs_b ?_) (outs_b ?_) <;> simp [h]
  · repeat (first | (refine step_ops ?_; (refine m_mov (by conv => lhs; whnf) ?_)) | refine end_ops ?_ | refine seq_ops ?_ | refine AW_seq ?_)
    (refine step_ops ?_); (apply m_call (areGivers_spec _ _ hF hL)); (· repeat (first | exact lends_nil | (refine lends_cons ?_ ?_; (· (refine lend_ints ?_; first | rfl | omega)))))
    repeat (first | (refine step_ops ?_; (first | (refine m_mov (by conv => lhs; whnf) ?_) | (refine m_not rfl ?_))) | refine end_ops ?_ | refine seq_ops ?_ | (refine cond_t rfl ?_ ?_; (· (refine nt ?_; assumption))) | refine AW_ret ?_ | refine ret_done ?_ | refine ret_then ?_)
    refine outs_tup2 (outs_b ?_) (outs_b ?_) <;> simp [h]
end Go.Proofs.Ytbeflnnejofleaa
namespace Go.Proofs.Ytbeflnnejofleaa
variable [Go.Am.CodeBlk]
open Go.Am
attribute [local irreducible] AW Outs Weak Lends Lend Sp aops atree aop1 Then Round InBlock Done
attribute [local irreducible] SpH DoneH
/-- How many of the first k guests are of the family f and get a gift of the family g. -/
def gcnt (F L : List Int) (f g : Nat) : Nat → Int
  | 0 => 0
  | k + 1 => gcnt F L f g k + if F.getD k 0 = f ∧ F.getD (L.getD k 0).toNat 0 = g then 1 else 0
theorem gcnt_le (F L : List Int) (f g k : Nat) : 0 ≤ gcnt F L f g k ∧ gcnt F L f g k ≤ k := by
  induction k with
  | zero => simp [gcnt]
  | succ k ih => simp only [gcnt]; split <;> omega
def growF (F L : List Int) (m f k : Nat) : List Int := (List.range m).map fun g => gcnt F L f g k
theorem growF_len (F L : List Int) (m f k : Nat) : (growF F L m f k).length = m := by simp [growF]
theorem growF_get (F L : List Int) (m f k g : Nat) (h : g < m) : (growF F L m f k).getD g 0 = gcnt F L f g k := by simp [growF, h]
theorem growF_zero (F L : List Int) (m f : Nat) : growF F L m f 0 = List.replicate m 0 := by
  apply List.ext_getElem?
  intro j
  by_cases hj : j < m
  · simp [growF, hj, gcnt]
  · simp [growF, hj]
theorem growF_no {F L : List Int} {m f k : Nat} (h : F.getD k 0 ≠ f) : growF F L m f (k + 1) = growF F L m f k := by
  unfold growF
  refine List.map_congr_left fun g _ => ?_
  simp only [gcnt]
  rw [if_neg fun hh => h hh.1, Int.add_zero]
theorem growF_yes {F L : List Int} {m f k g : Nat} (h : F.getD k 0 = f) (hg : F.getD (L.getD k 0).toNat 0 = g) : (growF F L m f k).set g (gcnt F L f g k + 1) = growF F L m f (k + 1) := by
  apply List.ext_getElem?
  intro j
  rw [List.getElem?_set]
  by_cases hj : j < m
  · by_cases e : g = j
    · subst e
      rw [if_pos rfl, if_pos (by rw [growF_len]; exact hj)]
      simp only [growF, List.getElem?_map, List.getElem?_range hj, Option.map_some, gcnt]
      rw [if_pos ⟨h, hg⟩]
    · have : ¬ (g : Int) = (j : Int) := by omega
      rw [if_neg e]
      simp only [growF, List.getElem?_map, List.getElem?_range hj, Option.map_some, gcnt]
      rw [if_neg fun hh => this (hg.symm.trans hh.2), Int.add_zero]
  · have h1 : (growF F L m f k)[j]? = none := List.getElem?_eq_none (by rw [growF_len]; omega)
    have h2 : (growF F L m f (k + 1))[j]? = none := List.getElem?_eq_none (by rw [growF_len]; omega)
    rw [h1, h2, growF_len]
    by_cases e : g = j
    · rw [if_pos e, if_neg (by omega)]
    · rw [if_neg e]
def gmat (F L : List Int) (m n k : Nat) : List (List Int) := (List.range n).map fun f => growF F L m f k
theorem gmat_len (F L : List Int) (m n k : Nat) : (gmat F L m n k).length = n := by simp [gmat]
theorem gmat_get (F L : List Int) (m n k f : Nat) (h : f < n) : (gmat F L m n k).getD f [] = growF F L m f k := by simp [gmat, h]
theorem gmat_snoc (F L : List Int) (m n k : Nat) : gmat F L m (n + 1) k = gmat F L m n k ++ [growF F L m n k] := by simp [gmat, List.range_succ]
/-- What GiftsBetween tells. -/
def GbOk (F L : List Int) : Prop := Givers F L ∧ apart F L
instance (F L : List Int) : Decidable (GbOk F L) := inferInstanceAs (Decidable (_ ∧ _))
def gbRes (F L : List Int) : List (List Int) := if GbOk F L then gmat F L (famN F).toNat (famN F).toNat L.length else []
theorem gbRes_ok (F L : List Int) : (gbRes F L).length ≤ 9 ∧ ∀ r ∈ gbRes F L, r.length ≤ 9 := by
  unfold gbRes
  split
  · rename_i h
    have h1 := h.1.1
    have h2 := famN_le h1
    have h9 := h1.2.1
    refine ⟨by rw [gmat_len]; omega, fun r hr => ?_⟩
    simp only [gmat, List.mem_map] at hr
    obtain ⟨f, _, rfl⟩ := hr
    rw [growF_len]; omega
  · simp
theorem specGiftsBetween_spec (F L : List Int) (hF : F.length ≤ 1048576) (hL : L.length ≤ 1048576) : SpH Try.prog 14 [ints F, ints L] (fun _ => none) (.tup [.sl nbase 1 0 (gbRes F L).length, .v (.bool (decide (GbOk F L)))]) (matO (gbRes F L)) := by
  have hpb : pbase = 4000000 := rfl
  refine specH_of Try.func14 rfl cc14 rfl (by first | exact static_mat1 _ | exact static_mat2 _ _ | assumption) ?_
  unfold ac14
  by_cases h1 : Givers F L
  · by_cases h2 : apart F L
    · have hok : GbOk F L := ⟨h1, h2⟩
      have e0 : gbRes F L = gmat F L (famN F).toNat (famN F).toNat L.length := if_pos hok
      have hfam := h1.1
      have hn := famN_le hfam
      have h9 := hfam.2.1
      have hlen := h1.2.2
      obtain ⟨m, hm⟩ := Int.eq_ofNat_of_zero_le (show 0 ≤ famN F by omega)
      have hsz : (sizesOf F (famN F).toNat).length = m := by rw [sizesOf_len, hm, Int.toNat_natCast]
      rw [e0, hm, Int.toNat_natCast]
      repeat (first | (refine step_ops ?_; (first | (refine m_mov (by conv => lhs; whnf) ?_) | (refine m_nils ?_))) | refine end_ops ?_ | refine seq_ops ?_ | refine AW_seq ?_)
      (refine step_ops ?_); (apply m_call (giBoth_spec F L hF hL)); (· repeat (first | exact lends_nil | (refine lends_cons ?_ ?_; (· (refine lend_ints ?_; first | rfl | omega)))))
      repeat (refine step_ops ?_; ((try (refine g_yes rfl ?_ ?_; (· (simp [*]; done)))); (first | (refine m_mov (by conv => lhs; whnf) ?_) | (refine m_not rfl ?_))))
      (refine step_ops ?_); (refine g_yes rfl ?_ ?_; (· first | ((simp [*]; done)) | (fail)); (apply m_call (giIs_spec F L h1))); (· repeat (first | exact lends_nil | (refine lends_cons ?_ ?_; (· (refine lend_ints ?_; first | rfl | omega)))))
      repeat (first | (refine step_ops ?_; ((try (refine g_yes rfl ?_ ?_; (· (simp [*]; done)))); (first | (refine m_mov (by conv => lhs; whnf) ?_) | (refine m_not rfl ?_) | (refine m_pick_f rfl ?_ (by conv => lhs; whnf) ?_; (· (refine nf ?_; assumption)))))) | refine end_ops ?_ | refine seq_ops ?_ | (refine cond_f rfl ?_ ?_; (· (refine nf ?_; assumption))) | refine skip_then ?_)
      (refine step_ops ?_); (apply m_call (giSizes_spec F hfam)); (· repeat (first | exact lends_nil | (refine lends_cons ?_ ?_; (· (refine lend_ints ?_; first | rfl | omega)))))
      repeat (first | (refine step_ops ?_; (first | (refine m_mov (by conv => lhs; whnf) ?_) | (refine m_len_ro rfl ?_) | (refine m_nils ?_))) | refine end_ops ?_ | refine seq_ops ?_ | refine AW_seq ?_ | refine AW_block ?_)
      rw [hsz]
      refine AW_loop (α := Nat) (fun f => f ≤ m) (fun f => stM [(0, ints F), (1, ints L), (6, .i m), (7, .sl 7 1 0 (gmat F L m f L.length).length), (8, .i f)] [] 7 1000 (gmat F L m f L.length)) (fun f => m - f) 0 (by omega)
        (weak_keep id ?_ ?_ rfl rfl rfl (.inl (by simp [gmat, pbase])) rfl rfl rfl (.inr ⟨rfl, rfl⟩) (fun j hj => by simp [gmat] at hj)) ?_
      · (repeat' (first | exact trivial | refine And.intro ?_ ?_)) <;> (first | rfl | skip)
      · trivial
      intro f hf
      have hgl := gmat_len F L m f L.length
      have hrl := rowsC_len 1000 (gmat F L m f L.length)
      by_cases hc : f < m
      · repeat (first | (refine step_ops ?_; (first | (refine m_mov (by conv => lhs; whnf) ?_) | (refine m_lss rfl rfl ?_))) | refine end_ops ?_ | refine seq_ops ?_ | (refine cond_t rfl ?_ ?_; (· (refine decide_eq_true ?_; omega))) | refine skip_then ?_ | refine AW_seq ?_ | refine AW_block ?_)
        refine step_ops ?_
        refine m_mk rfl rfl (by omega) (by omega) ?_
        repeat (first | (refine step_ops ?_; (first | (refine m_mov (by conv => lhs; whnf) ?_) | (refine m_len_ro rfl ?_))) | refine end_ops ?_ | refine seq_ops ?_ | refine AW_seq ?_ | refine AW_block ?_)
        refine AW_loop (α := Nat) (fun k => k ≤ L.length) (fun k => stM [(0, ints F), (1, ints L), (6, .i m), (7, .sl 7 1 0 (gmat F L m f L.length).length), (8, .i f), (9, .sl 31 1 0 m), (32, ints L), (33, .i L.length), (34, .i k)] [(31, (true, (growF F L m f k).map AV.i))] 7 1000 (gmat F L m f L.length)) (fun k => L.length - k) 0 (by omega)
          (weak_keep id ?_ ?_ rfl rfl rfl (.inl (by omega)) rfl rfl rfl (.inl ⟨rfl, ?_⟩) ?_) ?_
        · (repeat' (first | exact trivial | refine And.intro ?_ ?_)) <;> (first | rfl | skip)
        · refine ⟨?_, trivial⟩
          show some (true, (List.replicate m (List.map AV.v [Value.int IntKind.i64 0])).flatten) = some (true, (growF F L m f 0).map AV.i)
          rw [growF_zero]
          simp
        · simp [rowsC_kill]
        · (intro j hj; simp (disch := first | omega | assumption) only [hp_put, hp_mem_ne, hp_kill_ne]; first | exact stM_row rfl hj | (rw [stM_row rfl hj]; rfl))
        intro k hk
        have hrwl := growF_len F L m f k
        by_cases hck : k < L.length
        · have hkF : k < F.length := by omega
          by_cases he : F.getD k 0 = f
          · have hx := h1.2.1.2.2.1 _ (getD_mem hck)
            obtain ⟨x, hxx⟩ := Int.eq_ofNat_of_zero_le hx.1
            have hg := fam_range hfam (getD_mem (show x < F.length by omega))
            obtain ⟨g, hgg⟩ := Int.eq_ofNat_of_zero_le hg.1
            have hy := growF_yes (m := m) (L := L) he (by rw [hxx, Int.toNat_natCast]; exact hgg)
            have hgt := growF_get F L m f k g (by omega)
            have hgle := gcnt_le F L f g k
            repeat (first | (refine step_ops ?_; (first | (refine m_mov (by conv => lhs; whnf) ?_) | (refine m_lss rfl rfl ?_) | (refine m_eql rfl rfl ?_) | (refine m_add rfl rfl ?_ ?_ ?_; (· omega); (· omega)) | (refine m_idx1_ro rfl rfl ?_ ?_; (· omega)) | (apply m_idx1_slj; (· rfl); (· rfl); (· assumption); (· omega)) | (apply m_idx1_roj; (· rfl); (· rfl); (· assumption); (· omega)) | (refine m_ld_rpi rfl ?_ ?_; (· omega)) | (refine m_ld_pti rfl (by rfl) ?_ ?_; (· first | omega | (simp; omega))) | (apply m_st; (· rfl); (· rfl); (· rfl); (· first | omega | (simp; done) | (simp; omega)); (· rfl)))) | refine end_ops ?_ | refine seq_ops ?_ | refine AW_ops ?_ | (refine cond_t rfl ?_ ?_; (· first | (refine decide_eq_true ?_; assumption) | (refine decide_eq_true ?_; omega))) | refine skip_then ?_ | refine AW_seq ?_ | refine norm_then ?_ | refine AW_block ?_ | refine norm_block ?_)
            rw [hxx]
            skip
            rw [hgg]
            skip
            refine next_round (k + 1) (by omega) (weak_keep id ?_ ?_ rfl rfl rfl (.inl (by omega)) rfl rfl rfl (.inl ⟨rfl, rfl⟩) ?_) ?_
            · (repeat' (first | exact trivial | refine And.intro ?_ ?_)) <;> (first | rfl | skip)
            · refine ⟨?_, trivial⟩
              show some (true, ((growF F L m f k).map AV.i).set g (AV.i ((growF F L m f k).getD g 0 + 1))) = some (true, (growF F L m f (k + 1)).map AV.i)
              rw [hgt, ← hy, List.map_set]
            · (intro j hj; simp (disch := first | omega | assumption) only [hp_put, hp_mem_ne]; first | exact stM_row rfl hj | (rw [stM_row rfl hj]; rfl))
            · omega
          · repeat (first | (refine step_ops ?_; (first | (refine m_mov (by conv => lhs; whnf) ?_) | (refine m_lss rfl rfl ?_) | (refine m_eql rfl rfl ?_) | (refine m_add rfl rfl ?_ ?_ ?_; (· omega); (· omega)) | (refine m_idx1_ro rfl rfl ?_ ?_; (· omega)) | (refine m_ld_rpi rfl ?_ ?_; (· omega)))) | refine end_ops ?_ | refine seq_ops ?_ | refine AW_ops ?_ | (refine cond_t rfl ?_ ?_; (· (refine decide_eq_true ?_; omega))) | (refine cond_f rfl ?_ ?_; (· (refine decide_eq_false ?_; assumption))) | refine skip_then ?_ | refine AW_seq ?_ | refine norm_then ?_ | refine AW_block ?_ | refine norm_block ?_ | refine AW_skip ?_)
            refine next_round (k + 1) (by omega) (weak_keep id ?_ ?_ rfl rfl rfl (.inl (by omega)) rfl rfl rfl (.inl ⟨rfl, rfl⟩) ?_) ?_
            · (repeat' (first | exact trivial | refine And.intro ?_ ?_)) <;> (first | rfl | skip)
            · rw [growF_no he]
              (repeat' (first | exact trivial | refine And.intro ?_ ?_)) <;> (first | rfl | skip)
            · (intro j hj; simp (disch := first | omega | assumption) only [hp_put]; first | exact stM_row rfl hj | (rw [stM_row rfl hj]; rfl))
            · omega
        · repeat (first | (refine step_ops ?_; (first | (refine m_mov (by conv => lhs; whnf) ?_) | (refine m_lss rfl rfl ?_))) | refine end_ops ?_ | refine seq_ops ?_ | refine AW_ops ?_ | (refine cond_f rfl ?_ ?_; (· (refine decide_eq_false ?_; omega))) | refine AW_seq ?_ | refine norm_then ?_ | refine exit_then ?_ | refine exit_round ?_ | refine AW_exit ?_ | refine exit_block ?_)
          obtain rfl : k = L.length := by omega
          refine step_ops ?_
          refine m_bsl1d rfl rfl ?_
          refine step_ops ?_
          refine m_app1d rfl (by decide) rfl ?_ rfl rfl rfl ?_ (by decide) ?_
          · simp [rowsC_kill, rowsC_len]
          · omega
          repeat (first | (refine step_ops ?_; (first | (refine m_mov (by conv => lhs; whnf) ?_) | (refine m_add rfl rfl ?_ ?_ ?_; (· omega); (· omega)))) | refine end_ops ?_ | refine AW_ops ?_ | refine norm_then ?_ | refine norm_block ?_)
          refine next_round (f + 1) (by omega) ?_ ?_
          · rw [gmat_snoc, List.length_append]
            refine weak_push (row := growF F L m f L.length) (fun r => if r = 7 then 58 else r) 31 ?_ ?_ rfl rfl rfl (by omega) rfl rfl (by decide) rfl rfl ?_ ?_ ?_
            · (repeat' (first | exact trivial | refine And.intro ?_ ?_)) <;> (first | rfl | skip)
            · trivial
            · simp [rowsC_kill, killL_append, killL, hrwl]
              rfl
            · rfl
            · (intro j hj; simp (disch := first | omega | assumption) only [hp_put, hp_mem_ne, hp_kill_ne]; first | exact stM_row rfl hj | (rw [stM_row rfl hj]; rfl))
          · omega
      · repeat (first | (refine step_ops ?_; (first | (refine m_mov (by conv => lhs; whnf) ?_) | (refine m_lss rfl rfl ?_))) | refine end_ops ?_ | refine seq_ops ?_ | (refine cond_f rfl ?_ ?_; (· (refine decide_eq_false ?_; omega))) | refine AW_seq ?_ | refine AW_ret ?_ | refine norm_then ?_ | refine exit_then ?_ | refine exit_round ?_ | refine AW_exit ?_ | refine exit_block ?_)
        obtain rfl : f = m := by omega
        simp only [hok, decide_true]
        refine ret_mat (r0 := 7) (b := 1000) (by omega) (by omega) (by omega) rfl rfl ?_
        (intro j hj; simp (disch := first | omega | assumption) only [hp_put]; first | exact stM_row rfl hj | (rw [stM_row rfl hj]; rfl))
    · have hok : ¬ GbOk F L := fun hh => h2 hh.2
      have e0 : gbRes F L = [] := if_neg hok
      rw [e0]
      repeat (first | (refine step_ops ?_; (first | (refine m_mov (by conv => lhs; whnf) ?_) | (refine m_nils ?_))) | refine end_ops ?_ | refine seq_ops ?_ | refine AW_seq ?_)
      (refine step_ops ?_); (apply m_call (giBoth_spec F L hF hL)); (· repeat (first | exact lends_nil | (refine lends_cons ?_ ?_; (· (refine lend_ints ?_; first | rfl | omega)))))
      repeat (refine step_ops ?_; ((try (refine g_yes rfl ?_ ?_; (· (simp [*]; done)))); (first | (refine m_mov (by conv => lhs; whnf) ?_) | (refine m_not rfl ?_))))
      (refine step_ops ?_); (refine g_yes rfl ?_ ?_; (· first | ((simp [*]; done)) | (fail)); (apply m_call (giIs_spec F L h1))); (· repeat (first | exact lends_nil | (refine lends_cons ?_ ?_; (· (refine lend_ints ?_; first | rfl | omega)))))
      repeat (first | (refine step_ops ?_; ((try (refine g_yes rfl ?_ ?_; (· (simp [*]; done)))); (first | (refine m_mov (by conv => lhs; whnf) ?_) | (refine m_not rfl ?_) | (refine m_pick_f rfl ?_ (by conv => lhs; whnf) ?_; (· (refine nf ?_; assumption))) | (refine m_nils ?_)))) | refine end_ops ?_ | refine seq_ops ?_ | (refine cond_t rfl ?_ ?_; (· (refine nt ?_; assumption))) | refine AW_ret ?_ | refine ret_then ?_)
      simp only [hok, decide_false]
      exact ret_mat0 (r0 := 4) (fl := true) (by omega) rfl rfl
  · have hok : ¬ GbOk F L := fun hh => h1 hh.1
    have e0 : gbRes F L = [] := if_neg hok
    rw [e0]
    repeat (first | (refine step_ops ?_; (first | (refine m_mov (by conv => lhs; whnf) ?_) | (refine m_nils ?_))) | refine end_ops ?_ | refine seq_ops ?_ | refine AW_seq ?_)
    (refine step_ops ?_); (apply m_call (giBoth_spec F L hF hL)); (· repeat (first | exact lends_nil | (refine lends_cons ?_ ?_; (· (refine lend_ints ?_; first | rfl | omega)))))
    repeat (first | (refine step_ops ?_; (first | (first | (refine m_mov (by conv => lhs; whnf) ?_) | (refine m_not rfl ?_) | (refine m_pick_t rfl ?_ (by conv => lhs; whnf) ?_; (· (refine nt ?_; assumption))) | (refine m_nils ?_)) | (refine g_noF rfl ?_ ?_; (· (refine nt ?_; assumption))))) | refine end_ops ?_ | refine seq_ops ?_ | (refine cond_t rfl ?_ ?_; (· rfl)) | refine AW_ret ?_ | refine ret_then ?_)
    simp only [hok, decide_false]
    exact ret_mat0 (r0 := 4) (fl := true) (by omega) rfl rfl
/-- Rows of zeros; the outer slice asx it is filled. -/
def zrows (m f : Nat) : List (List Int) := List.replicate f (List.replicate m 0)
def zcells (m f : Nat) : List AV := rowsC 1000 (zrows m f) ++ List.replicate (m - f) (.v (.slice none 0 0))
theorem zrows_len (m f : Nat) : (zrows m f).length = f := by simp [zrows]
theorem zrows_get (m f j : Nat) (h : j < f) : (zrows m f).getD j [] = List.replicate m 0 := by simp [zrows, h]
theorem zrows_all (F L : List Int) (m : Nat) : zrows m m = gmat F L m m 0 := by
  apply List.ext_getElem?
  intro j
  by_cases hj : j < m
  · simp [zrows, gmat, hj, growF_zero]
  · simp [zrows, gmat, hj]
theorem killL_nils (r n : Nat) : killL r (List.replicate n (.v (.slice none 0 0))) = List.replicate n (.v (.slice none 0 0)) := by
  rw [killL_eq_map, List.map_replicate]; rfl
theorem renL_nils (f : Nat → Nat) (n : Nat) : renL f (List.replicate n (.v (.slice none 0 0))) = List.replicate n (.v (.slice none 0 0)) := by
  rw [renL_map, List.map_replicate]; rfl
theorem refsL_nils (keep : Nat → Bool) (n : Nat) : refsL keep (List.replicate n (.v (.slice none 0 0))) = true := by
  induction n with
  | zero => rfl
  | succ n ih => simp only [List.replicate_succ, refsL, refsV, ih, Bool.and_self]
theorem refsL_append (keep : Nat → Bool) (l m : List AV) : refsL keep (l ++ m) = (refsL keep l && refsL keep m) := by
  induction l with
  | nil => simp [refsL]
  | cons a l ih => simp only [List.cons_append, refsL, ih, Bool.and_assoc]
theorem zrows_succ (m f : Nat) : zrows m (f + 1) = zrows m f ++ [List.replicate m 0] := List.replicate_succ'
theorem zcells_set (m f q : Nat) (h : f < m) : (zcells m f).set f (.sl q 1 0 m) = rowsC 1000 (zrows m f) ++ [.sl q 1 0 m] ++ List.replicate (m - (f + 1)) (.v (.slice none 0 0)) := by
  unfold zcells
  have e : m - f = (m - (f + 1)) + 1 := by omega
  rw [List.set_append_right _ _ (by rw [rowsC_len, zrows_len]; omega), rowsC_len, zrows_len, Nat.sub_self, e, List.replicate_succ, List.set_cons_zero, List.append_assoc]
  rfl
theorem zcells_kill (r m f : Nat) (h : r < 1000) : killL r (zcells m f) = zcells m f := by
  unfold zcells
  rw [killL_append, rowsC_kill _ _ _ h, killL_nils]
theorem zcells_ren (f0 : Nat → Nat) (m f q : Nat) : renL (nmF 1000 f0 (gpush 1000 f q)) (zcells m (f + 1)) = rowsC 1000 (zrows m f) ++ [.sl q 1 0 m] ++ List.replicate (m - (f + 1)) (.v (.slice none 0 0)) := by
  unfold zcells
  rw [zrows_succ, rowsC_snoc, renL_append, renL_append, renL_nils, rowsC_ren _ 1000 1000]
  · congr 2
    simp only [renL, renV, zrows_len, List.length_replicate]
    unfold nmF gpush
    rw [if_neg (by omega), Nat.add_sub_cancel_left, if_neg (by omega)]
  · intro j hj
    rw [zrows_len] at hj
    unfold nmF gpush
    rw [if_neg (by omega), Nat.add_sub_cancel_left, if_pos hj]
theorem implGiftsBetween_spec (F L : List Int) (hF : F.length ≤ 1048576) (hL : L.length ≤ 1048576) : SpH Try.prog 13 [ints F, ints L] (fun _ => none) (.tup [.sl nbase 1 0 (gbRes F L).length, .v (.bool (decide (GbOk F L)))]) (matO (gbRes F L)) := by
  have hpb : pbase = 4000000 := rfl
  refine specH_of Try.func13 rfl cc13 rfl (by first | exact static_mat1 _ | exact static_mat2 _ _ | assumption) ?_
  unfold ac13
  by_cases hok : GbOk F L
  · have h1 := hok.1
    have e0 : gbRes F L = gmat F L (famN F).toNat (famN F).toNat L.length := if_pos hok
    have hfam := h1.1
    have hn := famN_le hfam
    have h9 := hfam.2.1
    have hlen := h1.2.2
    obtain ⟨m, hm⟩ := Int.eq_ofNat_of_zero_le (show 0 ≤ famN F by omega)
    have hg1 : decide (Givers F L ∧ apart F L) = true := decide_eq_true hok
    have hg2 : decide (Givers F L) = true := decide_eq_true h1
    have hig := implIsGiving_spec F L hF hL
    unfold isGivingR at hig
    rw [hg1, hg2] at hig
    rw [e0, hm, Int.toNat_natCast]
    repeat (first | (refine step_ops ?_; (first | (refine m_mov (by conv => lhs; whnf) ?_) | (refine m_nils ?_))) | refine end_ops ?_ | refine seq_ops ?_)
    refine step_ops ?_; (apply m_call (hig)); (· repeat (first | exact lends_nil | (refine lends_cons ?_ ?_; (· (refine lend_ints ?_; first | rfl | omega)))))
    repeat (first | (refine step_ops ?_; ((try (refine g_yes rfl ?_ ?_; (· rfl))); (first | (refine m_mov (by conv => lhs; whnf) ?_) | (refine m_not rfl ?_) | (refine m_pick_f rfl ?_ (by conv => lhs; whnf) ?_; (· rfl)) | (refine m_ext rfl rfl ?_)))) | refine end_ops ?_ | refine seq_ops ?_ | (refine cond_f rfl ?_ ?_; (· rfl)) | refine skip_then ?_ | refine AW_seq ?_)
    refine step_ops ?_; (apply m_call (countFam_spec F hfam)); (· repeat (first | exact lends_nil | (refine lends_cons ?_ ?_; (· (refine lend_ints ?_; first | rfl | omega)))))
    rw [hm]
    skip
    refine step_ops ?_
    refine m_mk rfl rfl (by omega) (by omega) ?_
    repeat (first | (refine step_ops ?_; (first | (refine m_mov (by conv => lhs; whnf) ?_) | (refine m_len_sl rfl ?_))) | refine end_ops ?_ | refine seq_ops ?_ | refine AW_seq ?_ | refine AW_block ?_)
    refine AW_loop (α := Nat) (fun f => f ≤ m) (fun f => stC [(0, ints F), (1, ints L), (8, .sl 26 1 0 m), (28, .i m), (29, .i f)] [] 26 (zcells m f) 1000 (zrows m f)) (fun f => m - f) 0 (by omega)
      (weak_matC id (fun j => 1000 + j) ?_ ?_ rfl rfl rfl (fun j hj => by simp [zrows] at hj) rfl ⟨_, rfl, .inr ⟨rfl, .inr (.inr ⟨?_, ?_⟩)⟩⟩ ?_ (fun j hj => by simp [zrows] at hj) rfl (fun j hj => by simp [zrows] at hj) (fun j j' hj => by simp [zrows] at hj)) ?_
    · (repeat' (first | exact trivial | refine And.intro ?_ ?_)) <;> (first | rfl | skip)
    · trivial
    · show (true, (List.replicate m (List.map AV.v [Value.slice none 0 0])).flatten) = (true, zcells m 0)
      simp [zcells, zrows, rowsC]
    · simp [zcells, zrows, rowsC, plainV]
    · intro keep _
      simp only [zcells, zrows, List.replicate_zero, rowsC, List.nil_append]
      exact refsL_nils _ _
    intro f hf
    have hzl := zrows_len m f
    have hrl := rowsC_len 1000 (zrows m f)
    have hcl : (zcells m f).length = m := by unfold zcells; rw [List.length_append, hrl, hzl, List.length_replicate]; omega
    by_cases hc : f < m
    · repeat (first | (refine step_ops ?_; (first | (refine m_mov (by conv => lhs; whnf) ?_) | (refine m_lss rfl rfl ?_) | (refine m_len_sl rfl ?_))) | refine end_ops ?_ | refine seq_ops ?_ | refine AW_ops ?_ | (refine cond_t rfl ?_ ?_; (· (refine decide_eq_true ?_; omega))) | refine skip_then ?_ | refine AW_seq ?_ | refine AW_block ?_)
      refine step_ops ?_
      refine m_mk rfl rfl (by omega) (by omega) ?_
      repeat (refine step_ops ?_; (refine m_idx1_sl rfl rfl ?_ ?_; (· omega)))
      refine step_ops ?_
      refine m_st (v := .sl 36 1 0 m) (by rfl) (by rfl) (by rfl) ?_ rfl ?_
      · rw [killL_eq_map, List.length_map, hcl]; exact hc
      repeat (first | (refine step_ops ?_; (first | (refine m_mov (by conv => lhs; whnf) ?_) | (refine m_add rfl rfl ?_ ?_ ?_; (· omega); (· omega)))) | refine end_ops ?_ | refine AW_ops ?_ | refine norm_then ?_ | refine norm_block ?_)
      refine next_round (f + 1) (by omega) (weak_matC id (gpush 1000 f 36) ?_ ?_ rfl rfl rfl (fun j hj => .inl ⟨by rw [zrows_len] at hj; omega, by unfold gpush; split <;> omega⟩) rfl ⟨_, rfl, .inr ⟨rfl, .inl ?_⟩⟩ ?_ ?_ rfl ?_ ?_) ?_
      · (repeat' (first | exact trivial | refine And.intro ?_ ?_)) <;> (first | rfl | skip)
      · trivial
      · show (false, (killL 36 (zcells m f)).set f (.sl 36 1 0 m)) = (false, renL (nmF 1000 id (gpush 1000 f 36)) (zcells m (f + 1)))
        rw [zcells_kill _ _ _ (by omega), zcells_set _ _ _ hc, zcells_ren]
      · intro keep hk
        unfold zcells
        rw [refsL_append, rowsC_refs _ _ _ hk, refsL_nils]; rfl
      · intro j hj
        rw [zrows_len] at hj
        unfold gpush
        by_cases hjf : j < f
        · rw [if_pos hjf, zrows_get _ _ _ hj]
          simp (disch := first | omega | assumption) only [hp_put, hp_mem_ne, hp_kill_ne]
          rw [stC_row rfl (by rw [zrows_len]; exact hjf), zrows_get _ _ _ hjf]; rfl
        · rw [if_neg hjf, zrows_get _ _ _ hj]
          show some (true, (List.replicate m (List.map AV.v [Value.int IntKind.i64 0])).flatten) = _
          simp
      · intro j hj r hr
        rw [zrows_len] at hj
        have hr' : r = 26 := by simpa using hr
        subst hr'
        unfold gpush
        split <;> simp <;> omega
      · intro j j' hj hj' e
        rw [zrows_len] at hj hj'
        unfold gpush at e
        split at e <;> split at e <;> omega
      · omega
    · obtain rfl : f = m := by omega
      have hza := zrows_all F L f
      repeat (first | (refine step_ops ?_; (first | (refine m_mov (by conv => lhs; whnf) ?_) | (refine m_lss rfl rfl ?_) | (refine m_len_ro rfl ?_))) | refine end_ops ?_ | refine seq_ops ?_ | (refine cond_f rfl ?_ ?_; (· (refine decide_eq_false ?_; omega))) | refine AW_seq ?_ | refine norm_then ?_ | refine exit_then ?_ | refine AW_block ?_ | refine exit_round ?_ | refine AW_exit ?_ | refine exit_block ?_)
      refine AW_loop (α := Nat) (fun k => k ≤ L.length) (fun k => stM [(0, ints F), (1, ints L), (8, .sl 26 1 0 f), (39, ints L), (40, .i L.length), (41, .i k)] [] 26 1000 (gmat F L f f k)) (fun k => L.length - k) 0 (by omega)
        (weak_keep id ?_ ?_ rfl rfl rfl (.inl (by rw [gmat_len]; omega)) rfl rfl rfl (.inl ⟨rfl, ?_⟩) ?_) ?_
      · (repeat' (first | exact trivial | refine And.intro ?_ ?_)) <;> (first | rfl | skip)
      · trivial
      · unfold zcells
        rw [Nat.sub_self, List.replicate_zero, List.append_nil, hza]
      · intro j hj
        rw [← hza] at hj ⊢
        simp only [hp_put]
        exact stC_row rfl hj
      intro k hk
      have hgl := gmat_len F L f f k
      by_cases hck : k < L.length
      · have hkF : k < F.length := by omega
        have ha := fam_range hfam (getD_mem hkF)
        obtain ⟨a, haa⟩ := Int.eq_ofNat_of_zero_le ha.1
        have hx := h1.2.1.2.2.1 _ (getD_mem hck)
        obtain ⟨x, hxx⟩ := Int.eq_ofNat_of_zero_le hx.1
        have hg := fam_range hfam (getD_mem (show x < F.length by omega))
        obtain ⟨g, hgg⟩ := Int.eq_ofNat_of_zero_le hg.1
        have haf : a < f := by omega
        have hgf : g < f := by omega
        have hy := growF_yes (m := f) (L := L) haa (by rw [hxx, Int.toNat_natCast]; exact hgg)
        have hgt := growF_get F L f a k g hgf
        have hgle := gcnt_le F L a g k
        have hrwl := growF_len F L f a k
        have hcell := rowsC_get 1000 (gmat F L f f k) a (by omega)
        rw [gmat_get _ _ _ _ _ _ haf, hrwl] at hcell
        have hrow := stM_row (l := [(0, ints F), (1, ints L), (8, .sl 26 1 0 f), (39, ints L), (40, .i L.length), (41, .i k)]) (h := []) (r0 := 26) (b := 1000) (rows := gmat F L f f k) rfl (j := a) (by omega)
        rw [gmat_get _ _ _ _ _ _ haf] at hrow
        repeat (first | ((first | refine step_ops ?_ | refine step_tree ?_); (first | (refine m_mov (by conv => lhs; whnf) ?_) | (refine m_lss rfl rfl ?_) | (refine m_idx1_ro rfl rfl ?_ ?_; (· omega)) | (apply m_idx1_slj; (· rfl); (· rfl); (· assumption); (· omega)) | (refine m_ld_rpi rfl ?_ ?_; (· omega)))) | refine end_ops ?_ | refine seq_ops ?_ | refine AW_tree ?_ | (refine cond_t rfl ?_ ?_; (· (refine decide_eq_true ?_; omega))) | refine skip_then ?_ | refine AW_seq ?_ | refine AW_block ?_)
        rw [hxx]
        skip
        rw [haa]
        skip
        refine step_tree ?_
        refine m_ld_pt rfl rfl hcell ?_
        repeat (refine step_tree ?_; (first | (refine m_mov (by conv => lhs; whnf) ?_) | (refine m_idx1_ro rfl rfl ?_ ?_; (· omega)) | (apply m_idx1_slj; (· rfl); (· rfl); (· assumption); (· omega)) | (refine m_ld_rpi rfl ?_ ?_; (· omega))))
        rw [hgg]
        skip
        refine step_tree ?_
        refine m_ld_pti rfl hrow (by omega) ?_
        rw [hgt]
        repeat (refine step_tree ?_; (first | (refine m_add rfl rfl ?_ ?_ ?_; (· omega); (· omega)) | (refine m_idx1_sl rfl rfl ?_ ?_; (· omega))))
        refine step_tree ?_
        refine m_st (v := .i (gcnt F L a g k + 1)) (by rfl) hrow (by rfl) ?_ rfl ?_
        · simp [hrwl, hgf]
        repeat (first | (refine step_ops ?_; (first | (refine m_mov (by conv => lhs; whnf) ?_) | (refine m_add rfl rfl ?_ ?_ ?_; (· omega); (· omega)))) | refine end_ops ?_ | refine AW_ops ?_ | refine end_tree ?_ | refine norm_then ?_ | refine norm_block ?_)
        refine next_round (k + 1) (by omega) (weak_keep id ?_ ?_ rfl rfl rfl (.inl (by rw [gmat_len]; omega)) rfl rfl (fl := false) (cs := rowsC 1000 (gmat F L f f k)) ?_ (.inl ⟨rfl, ?_⟩) ?_) ?_
        · (repeat' (first | exact trivial | refine And.intro ?_ ?_)) <;> (first | rfl | skip)
        · trivial
        · simp only [hp_put, id]
          rw [hp_mem_ne (by omega)]
          rfl
        · refine rowsC_same _ _ _ (by rw [gmat_len, gmat_len]) fun i hi => ?_
          rw [gmat_len] at hi
          rw [gmat_get _ _ _ _ _ _ hi, gmat_get _ _ _ _ _ _ hi, growF_len, growF_len]
        · intro i hi
          rw [gmat_len] at hi
          by_cases e : i = a
          · subst e
            simp only [hp_put]
            show (if 1000 + i = 1000 + i then _ else _) = _
            rw [if_pos rfl, gmat_get _ _ _ _ _ _ hi, ← hy, List.map_set]
          · have e2 : 1000 + i ≠ 1000 + a := by omega
            simp only [hp_put]
            rw [hp_mem_ne e2]
            simp only [hp_put]
            rw [stM_row rfl (by rw [gmat_len]; exact hi), gmat_get _ _ _ _ _ _ hi, gmat_get _ _ _ _ _ _ hi, growF_no (by omega)]
        · omega
      · repeat (first | (refine step_ops ?_; (first | (refine m_mov (by conv => lhs; whnf) ?_) | (refine m_lss rfl rfl ?_))) | refine end_ops ?_ | refine seq_ops ?_ | (refine cond_f rfl ?_ ?_; (· (refine decide_eq_false ?_; omega))) | refine AW_seq ?_ | refine AW_ret ?_ | refine norm_then ?_ | refine exit_then ?_ | refine exit_round ?_ | refine AW_exit ?_ | refine exit_block ?_)
        obtain rfl : k = L.length := by omega
        simp only [hok, decide_true]
        refine ret_mat (r0 := 26) (b := 1000) (by omega) (by omega) (by rw [gmat_len]; omega) (by rw [gmat_len]; rfl) rfl ?_
        (intro j hj; simp (disch := first | omega | assumption) only [hp_put]; first | exact stM_row rfl hj | (rw [stM_row rfl hj]; rfl))
  · have e0 : gbRes F L = [] := if_neg hok
    have hig := implIsGiving_spec F L hF hL
    unfold isGivingR at hig
    have hg1 : decide (Givers F L ∧ apart F L) = false := decide_eq_false hok
    rw [hg1] at hig
    rw [e0]
    by_cases hgv : Givers F L
    · have hg2 : decide (Givers F L) = true := decide_eq_true hgv
      rw [hg2] at hig
      repeat (first | (refine step_ops ?_; (first | (refine m_mov (by conv => lhs; whnf) ?_) | (refine m_nils ?_))) | refine end_ops ?_ | refine seq_ops ?_)
      refine step_ops ?_; (apply m_call (hig)); (· repeat (first | exact lends_nil | (refine lends_cons ?_ ?_; (· (refine lend_ints ?_; first | rfl | omega)))))
      repeat (first | (refine step_ops ?_; ((try (refine g_yes rfl ?_ ?_; (· rfl))); (first | (refine m_mov (by conv => lhs; whnf) ?_) | (refine m_not rfl ?_) | (refine m_pick_f rfl ?_ (by conv => lhs; whnf) ?_; (· rfl)) | (refine m_nils ?_) | (refine m_ext rfl rfl ?_)))) | refine end_ops ?_ | refine seq_ops ?_ | (refine cond_t rfl ?_ ?_; (· rfl)) | refine AW_seq ?_ | refine AW_ret ?_ | refine ret_then ?_)
      simp only [hok, decide_false]
      exact ret_mat0 (r0 := 4) (fl := true) (by omega) rfl rfl
    · have hg2 : decide (Givers F L) = false := decide_eq_false hgv
      rw [hg2] at hig
      repeat (first | (refine step_ops ?_; (first | (refine m_mov (by conv => lhs; whnf) ?_) | (refine m_nils ?_))) | refine end_ops ?_ | refine seq_ops ?_)
      refine step_ops ?_; (apply m_call (hig)); (· repeat (first | exact lends_nil | (refine lends_cons ?_ ?_; (· (refine lend_ints ?_; first | rfl | omega)))))
      repeat (first | (refine step_ops ?_; (first | (first | (refine m_mov (by conv => lhs; whnf) ?_) | (refine m_not rfl ?_) | (refine m_pick_t rfl ?_ (by conv => lhs; whnf) ?_; (· rfl)) | (refine m_nils ?_) | (refine m_ext rfl rfl ?_)) | (refine g_noF rfl ?_ ?_; (· rfl)))) | refine end_ops ?_ | refine seq_ops ?_ | (refine cond_t rfl ?_ ?_; (· rfl)) | refine AW_seq ?_ | refine AW_ret ?_ | refine ret_then ?_)
      simp only [hok, decide_false]
      exact ret_mat0 (r0 := 4) (fl := true) (by omega) rfl rfl
end Go.Proofs.Ytbeflnnejofleaa
namespace Go.Am
variable [Go.Am.CodeBlk]
/-- Where a number is in a list, or -1. -/
def posOf (L : List Int) (c : Int) : Int := if c ∈ L then (L.idxOf c : Int) else -1
def anewStep (s : List Int × List Int) (x : Int) : List Int × List Int := (if x ∈ s.1 then s.1 else s.1 ++ [x], s.2 ++ [posOf (if x ∈ s.1 then s.1 else s.1 ++ [x]) x])
def anewSt (M : List Int) : List Int × List Int := M.foldl anewStep ([], [])
theorem anewSt_snoc (M : List Int) (x : Int) : anewSt (M ++ [x]) = anewStep (anewSt M) x := by simp [anewSt, List.foldl_append]
def anew (M : List Int) : List Int := (anewSt M).2
theorem foldl_lens (M : List Int) : ∀ s : List Int × List Int, (M.foldl anewStep s).2.length = s.2.length + M.length ∧ (M.foldl anewStep s).1.length ≤ s.1.length + M.length := by
  induction M with
  | nil => intro s; simp
  | cons x M ih =>
    intro s
    obtain ⟨h1, h2⟩ := ih (anewStep s x)
    simp only [List.foldl_cons, List.length_cons]
    have e1 : (anewStep s x).2.length = s.2.length + 1 := by simp [anewStep]
    have e2 : (anewStep s x).1.length ≤ s.1.length + 1 := by
      simp only [anewStep]; split
      · omega
      · simp
    omega
theorem anew_len (M : List Int) : (anew M).length = M.length := by
  have := (foldl_lens M ([], [])).1
  simpa [anew, anewSt] using this
theorem came_len (M : List Int) : (anewSt M).1.length ≤ M.length := by
  have := (foldl_lens M ([], [])).2
  simpa [anewSt] using this
end Go.Am
namespace Go.Proofs.Ytbeflnnejofleaa
variable [Go.Am.CodeBlk]
open Go.Am
attribute [local irreducible] AW Outs Weak Lends Lend Sp aops atree aop1 Then Round InBlock Done
theorem l1Own_spec (L : List Int) (hL : L.length ≤ 1048576) : Sp Try.prog 38 [ints L] (newInts L) := by
  refine spec_of Try.func38 rfl cc38 rfl ?_
  unfold ac38
  repeat (first | (refine step_ops ?_; (first | (refine m_mov (by conv => lhs; whnf) ?_) | (refine m_nils ?_) | (refine m_bsl0 ?_) | (refine m_appro rfl (by decide) rfl (by first | rfl | (simp; done) | (simp [*]; done) | (simp; omega)) rfl (oks_ints _) ?_ (by decide) ?_; (· first | omega | (simp; omega))))) | refine end_ops ?_ | refine seq_ops ?_ | refine AW_ret ?_ | refine ret_done ?_)
  exact outs_ints rfl rfl (Nat.zero_add _)
theorem slicesClone_spec (L : List Int) (hL : L.length ≤ 1048576) (h1 : 1 ≤ L.length) : Sp Try.prog 71 [ints L] (newInts L) := by
  refine spec_of Try.func71 rfl cc71 rfl ?_
  unfold ac71
  repeat (first | (refine step_ops ?_; (first | (refine m_mov (by conv => lhs; whnf) ?_) | (refine m_isnil_ro rfl ?_ ?_; (· omega)) | (refine m_nils ?_) | (refine m_bsl0 ?_) | (refine m_appro rfl (by decide) rfl (by first | rfl | (simp; done) | (simp [*]; done) | (simp; omega)) rfl (oks_ints _) ?_ (by decide) ?_; (· first | omega | (simp; omega))))) | refine end_ops ?_ | refine seq_ops ?_ | (refine cond_f rfl ?_ ?_; (· rfl)) | refine skip_then ?_ | refine AW_seq ?_ | refine AW_ret ?_ | refine ret_done ?_)
  exact outs_ints rfl rfl (Nat.zero_add _)
end Go.Proofs.Ytbeflnnejofleaa
namespace Go.Proofs.Ytbeflnnejofleaa
variable [Go.Am.CodeBlk]
open Go.Am
attribute [local irreducible] AW Outs Weak Lends Lend Sp aops atree aop1 Then Round InBlock Done
/-- Where a coat is, or -1. -/
def whoIs (L : List Int) (c : Int) : Int := if c ∈ L then (L.idxOf c : Int) else -1
theorem whoIs_at {L : List Int} {c : Int} {k : Nat} (h : k < L.length) (he : c ∉ L.take k) (hx : L.getD k 0 = c) : whoIs L c = k := by
  have hm : c ∈ L := hx ▸ getD_mem h
  have h1 : L.idxOf c = k := by
    conv => lhs; rw [← List.take_append_drop k L]
    rw [List.idxOf_append, if_neg he, List.drop_eq_getElem_cons h]
    have : L[k] = c := by simpa [h] using hx
    rw [this, List.idxOf_cons_self, List.length_take]
    omega
  rw [whoIs, if_pos hm, h1]
theorem exWho_spec (L : List Int) (c : Int) (hL : L.length ≤ 1048576) : Sp Try.prog 76 [ints L, .i c] (.i (whoIs L c)) := by
  refine spec_of Try.func76 rfl cc76 rfl ?_
  unfold ac76
  repeat (first | (refine step_ops ?_; (first | (refine m_mov (by conv => lhs; whnf) ?_) | (refine m_len_ro rfl ?_))) | refine end_ops ?_ | refine seq_ops ?_ | refine AW_seq ?_ | refine AW_block ?_)
  refine AW_loop (α := Nat) (fun k => k ≤ L.length ∧ c ∉ L.take k) (fun k => st [(7, ints L), (1, .i c), (8, .i L.length), (9, .i k)] []) (fun k => L.length - k) 0 (by simp) (weak_st ?_ ?_ rfl rfl) ?_
  · (repeat' (first | exact trivial | refine And.intro ?_ ?_)) <;> (first | rfl | skip)
  · trivial
  rintro k ⟨hk, he⟩
  by_cases h : k < L.length
  · by_cases hx : L.getD k 0 = c
    · repeat (first | (refine step_ops ?_; (first | (refine m_mov (by conv => lhs; whnf) ?_) | (refine m_lss rfl rfl ?_) | (refine m_eql rfl rfl ?_) | (refine m_idx1_ro rfl rfl ?_ ?_; (· omega)) | (refine m_ld_rpi rfl ?_ ?_; (· omega)))) | refine end_ops ?_ | refine seq_ops ?_ | (refine cond_t rfl ?_ ?_; (· first | (refine decide_eq_true ?_; assumption) | (refine decide_eq_true ?_; omega))) | refine skip_then ?_ | refine AW_seq ?_ | refine AW_ret ?_ | refine ret_done ?_ | refine ret_then ?_ | refine AW_block ?_ | refine ret_block ?_ | refine ret_round ?_)
      exact outs_i (whoIs_at h he hx).symm
    · repeat (first | (refine step_ops ?_; (first | (refine m_mov (by conv => lhs; whnf) ?_) | (refine m_lss rfl rfl ?_) | (refine m_eql rfl rfl ?_) | (refine m_add rfl rfl ?_ ?_ ?_; (· omega); (· omega)) | (refine m_idx1_ro rfl rfl ?_ ?_; (· omega)) | (refine m_ld_rpi rfl ?_ ?_; (· omega)))) | refine end_ops ?_ | refine seq_ops ?_ | refine AW_ops ?_ | (refine cond_t rfl ?_ ?_; (· (refine decide_eq_true ?_; omega))) | (refine cond_f rfl ?_ ?_; (· (refine decide_eq_false ?_; assumption))) | refine skip_then ?_ | refine AW_seq ?_ | refine norm_then ?_ | refine AW_block ?_ | refine norm_block ?_ | refine AW_skip ?_)
      refine next_round (k + 1) ⟨by omega, ?_⟩ (weak_st ?_ ?_ rfl rfl) ?_
      · rw [take_snoc L k 0 h, List.mem_append, List.mem_singleton]
        rintro (h1 | h1)
        · exact he h1
        · exact hx h1.symm
      · (repeat' (first | exact trivial | refine And.intro ?_ ?_)) <;> (first | rfl | skip)
      · trivial
      · omega
  · repeat (first | (refine step_ops ?_; (first | (refine m_mov (by conv => lhs; whnf) ?_) | (refine m_lss rfl rfl ?_))) | refine end_ops ?_ | refine seq_ops ?_ | (refine cond_f rfl ?_ ?_; (· (refine decide_eq_false ?_; omega))) | refine AW_seq ?_ | refine AW_ret ?_ | refine ret_done ?_ | refine norm_then ?_ | refine exit_then ?_ | refine exit_round ?_ | refine AW_exit ?_ | refine exit_block ?_)
    refine outs_i ?_
    rw [List.take_of_length_le (by omega)] at he
    rw [whoIs, if_neg he]
theorem slicesIndex_spec (L : List Int) (c : Int) (hL : L.length ≤ 1048576) : Sp Try.prog 72 [ints L, .i c] (.i (whoIs L c)) := by
  refine spec_of Try.func72 rfl cc72 rfl ?_
  unfold ac72
  repeat (first | (refine step_ops ?_; (first | (refine m_mov (by conv => lhs; whnf) ?_) | (refine m_len_ro rfl ?_))) | refine end_ops ?_ | refine seq_ops ?_ | refine AW_seq ?_ | refine AW_block ?_)
  refine AW_loop (α := Nat) (fun k => k ≤ L.length ∧ c ∉ L.take k) (fun k => st [(0, ints L), (1, .i c), (7, .i L.length), (8, .i k)] []) (fun k => L.length - k) 0 (by simp) (weak_st ?_ ?_ rfl rfl) ?_
  · (repeat' (first | exact trivial | refine And.intro ?_ ?_)) <;> (first | rfl | skip)
  · trivial
  rintro k ⟨hk, he⟩
  by_cases h : k < L.length
  · by_cases hx : c = L.getD k 0
    · repeat (first | (refine step_ops ?_; (first | (refine m_mov (by conv => lhs; whnf) ?_) | (refine m_lss rfl rfl ?_) | (refine m_eql rfl rfl ?_) | (refine m_idx1_ro rfl rfl ?_ ?_; (· omega)) | (refine m_ld_rpi rfl ?_ ?_; (· omega)))) | refine end_ops ?_ | refine seq_ops ?_ | (refine cond_t rfl ?_ ?_; (· first | (refine decide_eq_true ?_; assumption) | (refine decide_eq_true ?_; omega))) | refine skip_then ?_ | refine AW_seq ?_ | refine AW_ret ?_ | refine ret_done ?_ | refine ret_then ?_ | refine AW_block ?_ | refine ret_block ?_ | refine ret_round ?_)
      exact outs_i (whoIs_at h he hx.symm).symm
    · repeat (first | (refine step_ops ?_; (first | (refine m_mov (by conv => lhs; whnf) ?_) | (refine m_lss rfl rfl ?_) | (refine m_eql rfl rfl ?_) | (refine m_add rfl rfl ?_ ?_ ?_; (· omega); (· omega)) | (refine m_idx1_ro rfl rfl ?_ ?_; (· omega)) | (refine m_ld_rpi rfl ?_ ?_; (· omega)))) | refine end_ops ?_ | refine seq_ops ?_ | refine AW_ops ?_ | (refine cond_t rfl ?_ ?_; (· (refine decide_eq_true ?_; omega))) | (refine cond_f rfl ?_ ?_; (· (refine decide_eq_false ?_; assumption))) | refine skip_then ?_ | refine AW_seq ?_ | refine norm_then ?_ | refine AW_block ?_ | refine norm_block ?_ | refine AW_skip ?_)
      refine next_round (k + 1) ⟨by omega, ?_⟩ (weak_st ?_ ?_ rfl rfl) ?_
      · rw [take_snoc L k 0 h, List.mem_append, List.mem_singleton]
        rintro (h1 | h1)
        · exact he h1
        · exact hx h1
      · (repeat' (first | exact trivial | refine And.intro ?_ ?_)) <;> (first | rfl | skip)
      · trivial
      · omega
  · repeat (first | (refine step_ops ?_; (first | (refine m_mov (by conv => lhs; whnf) ?_) | (refine m_lss rfl rfl ?_))) | refine end_ops ?_ | refine seq_ops ?_ | (refine cond_f rfl ?_ ?_; (· (refine decide_eq_false ?_; omega))) | refine AW_seq ?_ | refine AW_ret ?_ | refine ret_done ?_ | refine norm_then ?_ | refine exit_then ?_ | refine exit_round ?_ | refine AW_exit ?_ | refine exit_block ?_)
    refine outs_i ?_
    rw [List.take_of_length_le (by omega)] at he
    rw [whoIs, if_neg he]
end Go.Proofs.Ytbeflnnejofleaa
namespace Go.Proofs.Ytbeflnnejofleaa
variable [Go.Am.CodeBlk]
open Go.Am
attribute [local irreducible] AW Outs Weak Lends Lend Sp aops atree aop1 Then Round InBlock Done
theorem giAnew_spec (M : List Int) (h9 : M.length ≤ 9) : Sp Try.prog 74 [ints M] (newInts (anew M)) := by
  refine spec_of Try.func74 rfl cc74 rfl ?_
  unfold ac74
  repeat (first | (refine step_ops ?_; (first | (refine m_mov (by conv => lhs; whnf) ?_) | (refine m_len_ro rfl ?_) | (refine m_nils ?_))) | refine end_ops ?_ | refine seq_ops ?_ | refine AW_seq ?_ | refine AW_block ?_)
  refine AW_loop (α := Nat) (fun k => k ≤ M.length) (fun k => st [(7, ints M), (8, .i M.length), (9, .i k), (3, .sl 3 1 0 (anewSt (M.take k)).1.length), (4, .sl 4 1 0 (anewSt (M.take k)).2.length)] [(3, (true, (anewSt (M.take k)).1.map AV.i)), (4, (true, (anewSt (M.take k)).2.map AV.i))]) (fun k => M.length - k) 0 (by simp) (weak_st ?_ ?_ rfl rfl) ?_
  · (repeat' (first | exact trivial | refine And.intro ?_ ?_)) <;> (first | rfl | skip)
  · exact ⟨rfl, rfl, trivial⟩
  intro k hk
  by_cases h : k < M.length
  · have hs := anewSt_snoc (M.take k) (M.getD k 0)
    rw [← take_snoc M k 0 h] at hs
    have hc1 := came_len (M.take k)
    have hc2 := anew_len (M.take k)
    unfold anew at hc2
    rw [List.length_take_of_le hk] at hc1 hc2
    generalize hZ : anewSt (M.take k) = Z at hs hc1 hc2 ⊢
    obtain ⟨c, o⟩ := Z
    dsimp only at hc1 hc2 ⊢
    by_cases hm : M.getD k 0 ∈ c
    · have e : anewSt (M.take (k + 1)) = (c, o ++ [posOf c (M.getD k 0)]) := by rw [hs]; simp only [anewStep, if_pos hm]
      repeat (first | (refine step_ops ?_; (first | (refine m_mov (by conv => lhs; whnf) ?_) | (refine m_lss rfl rfl ?_) | (refine m_idx1_ro rfl rfl ?_ ?_; (· omega)) | (refine m_ld_rpi rfl ?_ ?_; (· omega)))) | refine end_ops ?_ | refine seq_ops ?_ | (refine cond_t rfl ?_ ?_; (· (refine decide_eq_true ?_; omega))) | refine skip_then ?_ | refine AW_seq ?_ | refine AW_block ?_)
      (refine step_ops ?_); (apply m_call (l1Has_spec c _ (by omega))); (· repeat (first | exact lends_nil | (refine lends_cons ?_ ?_; (· (first | exact lend_v | (refine lend_sli (by rfl) ?_; first | rfl | omega | (simp; done)))))))
      repeat (first | (refine step_ops ?_; (first | (refine m_mov (by conv => lhs; whnf) ?_) | (refine m_not rfl ?_))) | refine end_ops ?_ | refine AW_ops ?_ | (refine cond_f rfl ?_ ?_; (· (refine nf ?_; assumption))) | refine skip_then ?_)
      (refine step_ops ?_); (apply m_call (exWho_spec c _ (by omega))); (· repeat (first | exact lends_nil | (refine lends_cons ?_ ?_; (· (first | exact lend_v | (refine lend_sli (by rfl) ?_; first | rfl | omega | (simp; done)))))))
      repeat (first | (refine step_ops ?_; (first | (refine m_mov (by conv => lhs; whnf) ?_) | (refine m_add rfl rfl ?_ ?_ ?_; (· omega); (· omega)) | (refine m_bsl1 rfl rfl ?_) | (refine m_app1i rfl (by decide) (by rfl) (by first | rfl | omega | (simp; done)) rfl rfl ?_ (by decide) ?_; (· first | omega | (simp; omega))))) | refine end_ops ?_ | refine AW_ops ?_ | refine norm_then ?_ | refine norm_block ?_)
      refine next_round (k + 1) (by omega) (Weak.trans (weak_move (r := 26) (q := 4) rfl (by decide) (by decide)) (weak_st ?_ ?_ rfl rfl)) ?_
      · rw [e]
        refine ⟨rfl, rfl, rfl, rfl, ?_, trivial⟩
        first
        | rfl
        | (show AV.sl 4 1 0 (o.length + 1) = AV.sl 4 1 0 (o ++ [posOf c (M.getD k 0)]).length
           rw [List.length_append]; rfl)
      · rw [e]
        refine ⟨rfl, ?_, trivial⟩
        first
        | rfl
        | (show some (true, o.map AV.i ++ [AV.i (posOf c (M.getD k 0))]) = some (true, (o ++ [posOf c (M.getD k 0)]).map AV.i)
           rw [List.map_append]; rfl)
      · omega
    · have e : anewSt (M.take (k + 1)) = (c ++ [M.getD k 0], o ++ [posOf (c ++ [M.getD k 0]) (M.getD k 0)]) := by rw [hs]; simp only [anewStep, if_neg hm]
      have hl1 : (c ++ [M.getD k 0]).length ≤ 1048576 := by rw [List.length_append]; simp; omega
      repeat (first | (refine step_ops ?_; (first | (refine m_mov (by conv => lhs; whnf) ?_) | (refine m_lss rfl rfl ?_) | (refine m_idx1_ro rfl rfl ?_ ?_; (· omega)) | (refine m_ld_rpi rfl ?_ ?_; (· omega)))) | refine end_ops ?_ | refine seq_ops ?_ | (refine cond_t rfl ?_ ?_; (· (refine decide_eq_true ?_; omega))) | refine skip_then ?_ | refine AW_seq ?_ | refine AW_block ?_)
      (refine step_ops ?_); (apply m_call (l1Has_spec c _ (by omega))); (· repeat (first | exact lends_nil | (refine lends_cons ?_ ?_; (· (first | exact lend_v | (refine lend_sli (by rfl) ?_; first | rfl | omega | (simp; done)))))))
      repeat (first | (refine step_ops ?_; (first | (refine m_mov (by conv => lhs; whnf) ?_) | (refine m_not rfl ?_) | (refine m_bsl1 rfl rfl ?_) | (refine m_app1i rfl (by decide) (by rfl) (by first | rfl | omega | (simp; done)) rfl rfl ?_ (by decide) ?_; (· first | omega | (simp; omega))))) | refine end_ops ?_ | refine AW_ops ?_ | (refine cond_t rfl ?_ ?_; (· (refine nt ?_; assumption))) | refine norm_then ?_)
      refine weak_ops (Weak.trans (weak_move (r := 20) (q := 3) rfl (by decide) (by decide)) (weak_st (l := [(7, ints M), (8, .i M.length), (9, .i k), (6, .i (M.getD k 0)), (3, .sl 3 1 0 (c ++ [M.getD k 0]).length), (4, .sl 4 1 0 o.length), (21, .sl 4 1 0 o.length), (22, .sl 3 1 0 (c ++ [M.getD k 0]).length), (23, .i (M.getD k 0))]) (h := [(3, (true, (c ++ [M.getD k 0]).map AV.i)), (4, (true, o.map AV.i))]) ?_ ?_ rfl rfl)) ?_
      · have e3 : AV.sl 3 1 0 (c.length + 1) = AV.sl 3 1 0 (c ++ [M.getD k 0]).length := by rw [List.length_append]; rfl
        first | exact ⟨rfl, rfl, rfl, rfl, e3, rfl, rfl, e3, rfl, trivial⟩ | exact ⟨rfl, rfl, rfl, rfl, rfl, rfl, rfl, rfl, rfl, trivial⟩
      · refine ⟨?_, rfl, trivial⟩
        first
        | rfl
        | (show some (true, c.map AV.i ++ [AV.i (M.getD k 0)]) = some (true, (c ++ [M.getD k 0]).map AV.i)
           rw [List.map_append]; rfl)
      skip
      (refine step_ops ?_); (apply m_call (exWho_spec (c ++ [M.getD k 0]) _ hl1)); (· repeat (first | exact lends_nil | (refine lends_cons ?_ ?_; (· (first | exact lend_v | (refine lend_sli (by rfl) ?_; first | rfl | omega | (simp; done)))))))
      repeat (first | (refine step_ops ?_; (first | (refine m_mov (by conv => lhs; whnf) ?_) | (refine m_add rfl rfl ?_ ?_ ?_; (· omega); (· omega)) | (refine m_bsl1 rfl rfl ?_) | (refine m_app1i rfl (by decide) (by rfl) (by first | rfl | omega | (simp; done)) rfl rfl ?_ (by decide) ?_; (· first | omega | (simp; omega))))) | refine end_ops ?_ | refine AW_ops ?_ | refine norm_then ?_ | refine norm_block ?_)
      refine next_round (k + 1) (by omega) (Weak.trans (weak_move (r := 26) (q := 4) rfl (by decide) (by decide)) (weak_st ?_ ?_ rfl rfl)) ?_
      · rw [e]
        refine ⟨rfl, rfl, rfl, rfl, ?_, trivial⟩
        first
        | rfl
        | (show AV.sl 4 1 0 (o.length + 1) = AV.sl 4 1 0 (o ++ [posOf (c ++ [M.getD k 0]) (M.getD k 0)]).length
           rw [List.length_append]; rfl)
      · rw [e]
        refine ⟨rfl, ?_, trivial⟩
        first
        | rfl
        | (show some (true, o.map AV.i ++ [AV.i (posOf (c ++ [M.getD k 0]) (M.getD k 0))]) = some (true, (o ++ [posOf (c ++ [M.getD k 0]) (M.getD k 0)]).map AV.i)
           rw [List.map_append]; rfl)
      · omega
  · repeat (first | (refine step_ops ?_; (first | (refine m_mov (by conv => lhs; whnf) ?_) | (refine m_lss rfl rfl ?_))) | refine end_ops ?_ | refine seq_ops ?_ | (refine cond_f rfl ?_ ?_; (· (refine decide_eq_false ?_; omega))) | refine AW_seq ?_ | refine AW_ret ?_ | refine ret_done ?_ | refine norm_then ?_ | refine exit_then ?_ | refine exit_round ?_ | refine AW_exit ?_ | refine exit_block ?_)
    obtain rfl : k = M.length := by omega
    refine outs_ints rfl ?_ ?_
    · rw [List.take_length]; rfl
    · rw [List.take_length]; rfl
theorem slicesContains_spec (L : List Int) (c : Int) (hL : L.length ≤ 1048576) : Sp Try.prog 59 [ints L, .i c] (.b (decide (c ∈ L))) := by
  refine spec_of Try.func59 rfl cc59 rfl ?_
  unfold ac59
  repeat (first | (refine step_ops ?_; (refine m_mov (by conv => lhs; whnf) ?_)) | refine end_ops ?_ | refine seq_ops ?_)
  (refine step_ops ?_); (apply m_call (slicesIndex_spec _ _ hL)); (· repeat (first | exact lends_nil | (refine lends_cons ?_ ?_; (· (first | exact lend_v | (refine lend_ints ?_; first | rfl | omega))))))
  repeat (first | (refine step_ops ?_; (first | (refine m_mov (by conv => lhs; whnf) ?_) | (refine m_geq rfl rfl ?_))) | refine end_ops ?_ | refine AW_ret ?_ | refine ret_done ?_)
  refine outs_b ?_
  refine decide_eq_decide.2 ?_
  unfold whoIs
  by_cases h : c ∈ L
  · simp [h]
  · simp [h]
end Go.Proofs.Ytbeflnnejofleaa
namespace Go.Am
variable [Go.Am.CodeBlk]
section
variable (fits : List Int → Nat → Bool) (n : Nat)
/-- All that go on from l by k more, in order. -/
def goOn : Nat → List Int → List (List Int)
  | 0, l => [l]
  | k + 1, l => ((List.range n).filter fun x => fits l x).flatMap fun (x : Nat) => goOn k (l ++ [(x : Int)])
/-- Those whose next is at least g. -/
def goFrom (l : List Int) (g : Nat) : List (List Int) := ((List.range n).filter fun x => decide (g ≤ x) && fits l x).flatMap fun (x : Nat) => goOn fits n (n - l.length - 1) (l ++ [(x : Int)])
/-- What comes behind all that go on from a list (which is told from its end). -/
def goBack : List Int → List (List Int)
  | [] => []
  | x :: r => goFrom fits n r.reverse (x.toNat + 1) ++ goBack r
/-- What a search finds that stands at a list and is to try g next. -/
def goAt (l : List Int) (g : Nat) : List (List Int) := (if l.length = n then [l] else goFrom fits n l g) ++ goBack fits n l.reverse
theorem range_split (p : Nat → Bool) (g : Nat) : ∀ n, g < n → (List.range n).filter (fun x => decide (g ≤ x) && p x) = (if p g then [g] else []) ++ (List.range n).filter (fun x => decide (g + 1 ≤ x) && p x)
  | 0, h => by omega
  | n + 1, h => by
    rw [List.range_succ, List.filter_append, List.filter_append]
    by_cases hg : g < n
    · rw [range_split p g n hg, List.append_assoc]
      congr 2
      have h1 : decide (g ≤ n) = true := decide_eq_true (by omega)
      have h2 : decide (g + 1 ≤ n) = true := decide_eq_true (by omega)
      simp only [List.filter_cons, List.filter_nil, h1, h2]
    · obtain rfl : g = n := by omega
      have e1 : (List.range g).filter (fun x => decide (g ≤ x) && p x) = [] := List.filter_eq_nil_iff.2 fun x hx => by have := List.mem_range.1 hx; simp; omega
      have e2 : (List.range g).filter (fun x => decide (g + 1 ≤ x) && p x) = [] := List.filter_eq_nil_iff.2 fun x hx => by have := List.mem_range.1 hx; simp; omega
      rw [e1, e2]
      have h2 : decide (g + 1 ≤ g) = false := decide_eq_false (by omega)
      have h1 : decide (g ≤ g) = true := decide_eq_true (by omega)
      simp only [List.filter_cons, List.filter_nil, List.nil_append, h1, h2]
      simp
theorem goFrom_step {l : List Int} {g : Nat} (hg : g < n) : goFrom fits n l g = (if fits l g then goOn fits n (n - l.length - 1) (l ++ [(g : Int)]) else []) ++ goFrom fits n l (g + 1) := by
  unfold goFrom
  rw [range_split (fits l) g n hg, List.flatMap_append]
  split <;> simp
theorem goFrom_end {l : List Int} {g : Nat} (hg : n ≤ g) : goFrom fits n l g = [] := by
  unfold goFrom
  rw [List.filter_eq_nil_iff.2 fun x hx => by have := List.mem_range.1 hx; simp; omega]
  rfl
theorem goOn_from {l : List Int} (h : l.length < n) : goOn fits n (n - l.length) l = goFrom fits n l 0 := by
  obtain ⟨k, hk⟩ : ∃ k, n - l.length = k + 1 := ⟨n - l.length - 1, by omega⟩
  unfold goFrom
  rw [hk]
  simp [goOn]
theorem goAt_full {l : List Int} {g : Nat} (h : l.length = n) : (goAt fits n l g).head? = some l := by
  simp [goAt, h]
theorem goAt_take {l : List Int} {g : Nat} (h : l.length < n) (hg : g < n) (hf : fits l g = true) : goAt fits n (l ++ [(g : Int)]) 0 = goAt fits n l g := by
  have hne : ¬ l.length = n := by omega
  unfold goAt
  rw [if_neg hne, goFrom_step fits n hg, if_pos hf, List.reverse_append, List.reverse_singleton, List.singleton_append, goBack, List.reverse_reverse, Int.toNat_natCast, List.append_assoc]
  congr 1
  by_cases h1 : l.length + 1 = n
  · have e : n - l.length - 1 = 0 := by omega
    rw [if_pos (by simpa using h1), e]
    rfl
  · have e : n - l.length - 1 = n - (l ++ [(g : Int)]).length := by simp; omega
    rw [if_neg (by simpa using h1), e, goOn_from fits n (by simp; omega)]
theorem goAt_skip {l : List Int} {g : Nat} (h : l.length < n) (hg : g < n) (hf : fits l g = false) : goAt fits n l (g + 1) = goAt fits n l g := by
  have hne : ¬ l.length = n := by omega
  unfold goAt
  rw [if_neg hne, if_neg hne, goFrom_step fits n hg, hf]
  simp
theorem goAt_none {g : Nat} (h : 0 < n) (hg : n ≤ g) : goAt fits n [] g = [] := by
  unfold goAt
  rw [if_neg (by simp; omega), goFrom_end fits n hg]
  rfl
theorem goAt_back {l : List Int} {x : Int} {g : Nat} (h : l.length + 1 < n) (hg : n ≤ g) : goAt fits n (l ++ [x]) g = goAt fits n l (x.toNat + 1) := by
  unfold goAt
  rw [if_neg (by simp; omega), if_neg (by omega), goFrom_end fits n hg, List.reverse_append, List.reverse_singleton, List.singleton_append, goBack, List.reverse_reverse]
  rfl
end
/-- How long a search may go on. -/
def goW (n : Nat) : Nat → Nat
  | 0 => 0
  | j + 1 => n * goW n j + 2
def goM (n : Nat) : List Int → Nat
  | [] => 0
  | x :: r => (n - (x.toNat + 1)) * goW n (n - r.length) + 1 + goM n r
def goMeas (n : Nat) (l : List Int) (g : Nat) : Nat := (n - g) * goW n (n - l.length) + goM n l.reverse
theorem goMeas_take {n : Nat} {l : List Int} {g : Nat} (h : l.length < n) (hg : g < n) : goMeas n (l ++ [(g : Int)]) 0 < goMeas n l g := by
  obtain ⟨k, hk⟩ : ∃ k, n - l.length = k + 1 := ⟨n - l.length - 1, by omega⟩
  have hk2 : n - (l ++ [(g : Int)]).length = k := by simp; omega
  obtain ⟨q, hq⟩ : ∃ q, n - g = q + 1 := ⟨n - g - 1, by omega⟩
  have hq2 : n - (g + 1) = q := by omega
  unfold goMeas
  rw [List.reverse_append, List.reverse_singleton, List.singleton_append, goM, List.length_reverse, Int.toNat_natCast, hk2, hk, hq, hq2, Nat.sub_zero, Nat.add_mul, Nat.one_mul]
  have : goW n (k + 1) = n * goW n k + 2 := rfl
  omega
theorem goMeas_skip {n : Nat} {l : List Int} {g : Nat} (h : l.length < n) (hg : g < n) : goMeas n l (g + 1) < goMeas n l g := by
  obtain ⟨k, hk⟩ : ∃ k, n - l.length = k + 1 := ⟨n - l.length - 1, by omega⟩
  obtain ⟨q, hq⟩ : ∃ q, n - g = q + 1 := ⟨n - g - 1, by omega⟩
  have hq2 : n - (g + 1) = q := by omega
  unfold goMeas
  rw [hk, hq, hq2, Nat.add_mul, Nat.one_mul]
  have : goW n (k + 1) = n * goW n k + 2 := rfl
  omega
theorem goMeas_back {n : Nat} {l : List Int} {x : Int} {g : Nat} (hg : n ≤ g) : goMeas n l (x.toNat + 1) < goMeas n (l ++ [x]) g := by
  have h0 : n - g = 0 := by omega
  unfold goMeas
  rw [List.reverse_append, List.reverse_singleton, List.singleton_append, goM, List.length_reverse, h0, Nat.zero_mul]
  omega
/-- Does a list come before another? -/
def comesB : List Int → List Int → Bool
  | [], _ => false
  | _ :: _, [] => false
  | a :: l, b :: m => if a = b then comesB l m else decide (a < b)
theorem comesB_append (p : List Int) (l m : List Int) : comesB (p ++ l) (p ++ m) = comesB l m := by
  induction p with
  | nil => rfl
  | cons a p ih => simp [comesB, ih]
theorem comesB_self (l : List Int) : comesB l l = false := by
  induction l with
  | nil => rfl
  | cons a l ih => simp [comesB, ih]
section
variable (fits : List Int → Nat → Bool) (n : Nat)
theorem goOn_shape : ∀ (k : Nat) (l x : List Int), x ∈ goOn fits n k l → ∃ m, x = l ++ m ∧ m.length = k
  | 0, l, x, h => ⟨[], by simpa [goOn] using h, rfl⟩
  | k + 1, l, x, h => by
    simp only [goOn, List.mem_flatMap] at h
    obtain ⟨y, _, hx⟩ := h
    obtain ⟨m, rfl, hm⟩ := goOn_shape k _ _ hx
    exact ⟨(y : Int) :: m, by simp, by simp [hm]⟩
/-- All that go on behind a lesser next come before; behind a greater one, behind. -/
theorem find_less {k : Nat} {l : List Int} {x : Nat} {b : Int} {t : List Int} (h : (x : Int) < b) : (goOn fits n k (l ++ [(x : Int)])).find? (fun m => comesB (l ++ b :: t) m) = none := by
  rw [List.find?_eq_none]
  intro m hm
  obtain ⟨r, rfl, _⟩ := goOn_shape fits n _ _ _ hm
  rw [List.append_assoc, comesB_append]
  have h1 : ¬ b = (x : Int) := by omega
  have h2 : ¬ b < (x : Int) := by omega
  simp [comesB, h1, h2]
theorem find_more {k : Nat} {l : List Int} {x : Nat} {b : Int} {t : List Int} (h : b < (x : Int)) : (goOn fits n k (l ++ [(x : Int)])).find? (fun m => comesB (l ++ b :: t) m) = (goOn fits n k (l ++ [(x : Int)])).head? := by
  have hall : ∀ m ∈ goOn fits n k (l ++ [(x : Int)]), comesB (l ++ b :: t) m = true := by
    intro m hm
    obtain ⟨r, rfl, _⟩ := goOn_shape fits n _ _ _ hm
    rw [List.append_assoc, comesB_append]
    have h1 : ¬ b = (x : Int) := by omega
    simp [comesB, h1, h]
  cases hg : goOn fits n k (l ++ [(x : Int)]) with
  | nil => rfl
  | cons m ms => simp [hall m (by rw [hg]; simp)]
end
theorem range_three (p : Nat → Bool) (g : Nat) : ∀ n, g < n → (List.range n).filter p = (List.range g).filter p ++ ((if p g then [g] else []) ++ (List.range n).filter (fun x => decide (g + 1 ≤ x) && p x))
  | 0, h => by omega
  | n + 1, h => by
    rw [List.range_succ, List.filter_append, List.filter_append]
    by_cases hg : g < n
    · rw [range_three p g n hg, List.append_assoc, List.append_assoc]
      congr 3
      have h2 : decide (g + 1 ≤ n) = true := decide_eq_true (by omega)
      simp only [List.filter_cons, List.filter_nil, h2, Bool.true_and]
    · obtain rfl : g = n := by omega
      have e2 : (List.range g).filter (fun x => decide (g + 1 ≤ x) && p x) = [] := List.filter_eq_nil_iff.2 fun x hx => by have := List.mem_range.1 hx; simp; omega
      have h2 : decide (g + 1 ≤ g) = false := decide_eq_false (by omega)
      rw [e2]
      simp only [List.filter_cons, List.filter_nil, List.nil_append, h2]
      simp
theorem findSome_congr {α β : Type} {f g : α → Option β} : ∀ {l : List α}, (∀ x ∈ l, f x = g x) → l.findSome? f = l.findSome? g
  | [], _ => rfl
  | a :: l, h => by
    simp only [List.findSome?_cons]
    rw [h a (by simp), findSome_congr fun x hx => h x (by simp [hx])]
section
variable (fits : List Int → Nat → Bool) (n : Nat)
theorem goFrom_head (l : List Int) (g : Nat) : (goFrom fits n l g).head? = ((List.range n).filter fun x => decide (g ≤ x) && fits l x).findSome? fun (x : Nat) => (goOn fits n (n - l.length - 1) (l ++ [(x : Int)])).head? := by
  unfold goFrom
  rw [List.head?_flatMap]
theorem find_next {k g : Nat} {l t : List Int} (hg : g < n) (hk : n - l.length = k + 1) : (goOn fits n (k + 1) l).find? (fun m => comesB (l ++ (g : Int) :: t) m) =
    (if fits l g then (goOn fits n k (l ++ [(g : Int)])).find? (fun m => comesB (l ++ (g : Int) :: t) m) else none).or (goFrom fits n l (g + 1)).head? := by
  have hk2 : n - l.length - 1 = k := by omega
  rw [goFrom_head, goOn, List.find?_flatMap, range_three _ g n hg, List.findSome?_append, List.findSome?_append, hk2]
  have e1 : ((List.range g).filter fun x => fits l x).findSome? (fun (x : Nat) => (goOn fits n k (l ++ [(x : Int)])).find? fun m => comesB (l ++ (g : Int) :: t) m) = none := by
    rw [List.findSome?_eq_none_iff]
    intro x hx
    have := List.mem_range.1 (List.mem_filter.1 hx).1
    exact find_less fits n (by omega)
  rw [e1, Option.none_or]
  congr 1
  · split <;> simp
  · refine findSome_congr fun x hx => ?_
    have := (List.mem_filter.1 hx).2
    simp only [Bool.and_eq_true, decide_eq_true_eq] at this
    exact find_more fits n (by omega)
/-- The first that comes behind a list: where its own beginning goes no further, a search that begins there finds it. -/
theorem find_behind {L : List Int} (hL : L.length = n) (hb : ∀ i < n, ∃ g : Nat, L.getD i 0 = g ∧ g < n) {kept : Nat} (hk : kept < n) (hf : ∀ i < kept, fits (L.take i) (L.getD i 0).toNat = true)
    (he : fits (L.take kept) (L.getD kept 0).toNat = false ∨ kept + 1 = n) : (goOn fits n n []).find? (fun m => comesB L m) = (goAt fits n (L.take kept) ((L.getD kept 0).toNat + 1)).head? := by
  have step : ∀ i, i < n → (goOn fits n (n - i) (L.take i)).find? (fun m => comesB L m) =
      (if fits (L.take i) (L.getD i 0).toNat then (goOn fits n (n - (i + 1)) (L.take (i + 1))).find? (fun m => comesB L m) else none).or (goFrom fits n (L.take i) ((L.getD i 0).toNat + 1)).head? := by
    intro i hi
    obtain ⟨g, hg, hgn⟩ := hb i hi
    have hlen : (L.take i).length = i := List.length_take_of_le (by omega)
    have hsp : L = L.take i ++ (g : Int) :: L.drop (i + 1) := by
      have h1 := take_snoc L i 0 (by omega)
      have h2 := List.take_append_drop (i + 1) L
      rw [h1, hg, List.append_assoc] at h2
      exact h2.symm
    have h1 := find_next fits n (k := n - (i + 1)) (g := g) (l := L.take i) (t := L.drop (i + 1)) hgn (by omega)
    rw [← hsp] at h1
    have e : n - (i + 1) + 1 = n - i := by omega
    rw [e] at h1
    rw [take_snoc L i 0 (by omega), hg, Int.toNat_natCast]
    exact h1
  have key : ∀ i, i ≤ kept → (goOn fits n n []).find? (fun m => comesB L m) = ((goOn fits n (n - i) (L.take i)).find? (fun m => comesB L m)).or (goBack fits n (L.take i).reverse).head? := by
    intro i
    induction i with
    | zero => intro _; simp [goBack]
    | succ i ih =>
      intro hi
      have h1 := hf i (by omega)
      rw [ih (by omega), step i (by omega), if_pos h1, Option.or_assoc]
      congr 1
      rw [take_snoc L i 0 (by omega), List.reverse_append, List.reverse_singleton, List.singleton_append, goBack, List.reverse_reverse, List.head?_append]
  have hlen : (L.take kept).length = kept := List.length_take_of_le (by omega)
  have hnone : (if fits (L.take kept) (L.getD kept 0).toNat then (goOn fits n (n - (kept + 1)) (L.take (kept + 1))).find? (fun m => comesB L m) else none) = none := by
    split
    · rename_i hh
      rcases he with he | he
      · rw [he] at hh; cases hh
      · have e : n - (kept + 1) = 0 := by omega
        rw [e, List.take_of_length_le (by omega)]
        simp [goOn, comesB_self]
    · rfl
  have hne : ¬ (L.take kept).length = n := by omega
  rw [key kept (Nat.le_refl _), step kept hk, hnone, Option.none_or, goAt, if_neg hne, List.head?_append]
end
/-- Where a beginning differs from a list for the first time by less, none that goes on from it comes behind. -/
theorem find_prune (fits : List Int → Nat → Bool) (n : Nat) {k i : Nat} {l b : List Int} (hl : i < l.length) (hb : i < b.length) (he : l.take i = b.take i) (hlt : l.getD i 0 < b.getD i 0) : (goOn fits n k l).find? (fun m => comesB b m) = none := by
  rw [List.find?_eq_none]
  intro m hm
  obtain ⟨r, rfl, _⟩ := goOn_shape fits n _ _ _ hm
  have h1 : l = l.take i ++ l.getD i 0 :: l.drop (i + 1) := by
    have h2 := List.take_append_drop (i + 1) l
    rw [take_snoc l i 0 hl, List.append_assoc] at h2
    exact h2.symm
  have h2 : b = l.take i ++ b.getD i 0 :: b.drop (i + 1) := by
    have h2 := List.take_append_drop (i + 1) b
    rw [take_snoc b i 0 hb, List.append_assoc, ← he] at h2
    exact h2.symm
  rw [h1, h2, List.append_assoc, comesB_append]
  have h3 : ¬ b.getD i 0 = l.getD i 0 := by omega
  have h4 : ¬ b.getD i 0 < l.getD i 0 := by omega
  simp only [List.cons_append, comesB, if_neg h3]
  exact fun hh => h4 (of_decide_eq_true hh)
end Go.Am
namespace Go.Proofs.Ytbeflnnejofleaa
variable [Go.Am.CodeBlk]
open Go.Am
attribute [local irreducible] AW Outs Weak Lends Lend Sp aops atree aop1 Then Round InBlock Done
/-- May the guest behind those of l get the gift of x? -/
def fitsG (F : List Int) (l : List Int) (x : Nat) : Bool := decide (F.getD l.length 0 ≠ F.getD x 0) && !decide ((x : Int) ∈ l)
theorem canTakeGift_spec (F l : List Int) (g : Nat) (h : IsFam F) (hl : l.length < F.length) (hg : g < F.length) : Sp Try.prog 40 [.agg (kinV F), ints l, .i g] (.b (fitsG F l g)) := by
  have h9 := h.2.1
  have hkl := kinV_len h9
  have hpl := kinV_plain F
  refine spec_of Try.func40 rfl cc40 rfl ?_
  unfold ac40
  by_cases h1 : F.getD l.length 0 = F.getD g 0
  · repeat refine seq_ops ?_
    refine step_ops ?_
    refine m_box rfl (kinV_ok F true) ?_
    repeat (first | (refine step_ops ?_; (first | (refine m_mov (by conv => lhs; whnf) ?_) | (refine m_len_ro rfl ?_) | (refine m_ldall rfl rfl ?_ ?_; (· first | rfl | (simp; done) | (simp [*]; done))))) | refine end_ops ?_ | refine seq_ops ?_)
    (refine step_ops ?_); (apply m_call (areApart_spec F l.length g h9 hl hg)); (· repeat (first | exact lends_nil | (refine lends_cons ?_ ?_; (· (first | exact lend_v | (refine lend_agg ?_; first | rfl | assumption | (simp [plainV]; done)))))))
    repeat (first | (refine step_ops ?_; (first | (first | (refine m_mov (by conv => lhs; whnf) ?_) | (refine m_pick_f rfl ?_ (by conv => lhs; whnf) ?_; (· (refine decide_eq_false ?_; omega)))) | (refine g_noT rfl ?_ ?_; (· (refine decide_eq_false ?_; omega))))) | refine end_ops ?_ | refine AW_ret ?_ | refine ret_done ?_)
    refine outs_b ?_
    unfold fitsG
    rw [show decide (F.getD l.length 0 ≠ F.getD g 0) = false from decide_eq_false fun hh => hh h1]
    simp
  · repeat refine seq_ops ?_
    refine step_ops ?_
    refine m_box rfl (kinV_ok F true) ?_
    repeat (first | (refine step_ops ?_; (first | (refine m_mov (by conv => lhs; whnf) ?_) | (refine m_len_ro rfl ?_) | (refine m_ldall rfl rfl ?_ ?_; (· first | rfl | (simp; done) | (simp [*]; done))))) | refine end_ops ?_ | refine seq_ops ?_)
    (refine step_ops ?_); (apply m_call (areApart_spec F l.length g h9 hl hg)); (· repeat (first | exact lends_nil | (refine lends_cons ?_ ?_; (· (first | exact lend_v | (refine lend_agg ?_; first | rfl | assumption | (simp [plainV]; done)))))))
    repeat (refine step_ops ?_; ((try (refine g_yes rfl ?_ ?_; (· (refine decide_eq_true ?_; assumption)))); (refine m_mov (by conv => lhs; whnf) ?_)))
    (refine step_ops ?_); (refine g_yes rfl ?_ ?_; (· first | ((refine decide_eq_true ?_; assumption)) | (fail)); (apply m_call (slicesContains_spec l g (by omega)))); (· repeat (first | exact lends_nil | (refine lends_cons ?_ ?_; (· (first | exact lend_v | (refine lend_ints ?_; first | rfl | omega))))))
    repeat (first | (refine step_ops ?_; ((try (refine g_yes rfl ?_ ?_; (· (refine decide_eq_true ?_; assumption)))); (first | (refine m_mov (by conv => lhs; whnf) ?_) | (refine m_not rfl ?_) | (refine m_pick_t rfl ?_ (by conv => lhs; whnf) ?_; (· (refine decide_eq_true ?_; assumption)))))) | refine end_ops ?_ | refine AW_ret ?_ | refine ret_done ?_)
    refine outs_b ?_
    unfold fitsG
    rw [show decide (F.getD l.length 0 ≠ F.getD g 0) = true from decide_eq_true h1]
    simp
theorem slicesClone_nil_spec : Sp Try.prog 71 [ints []] (newInts []) := by
  refine spec_of Try.func71 rfl cc71 rfl ?_
  unfold ac71
  repeat (first | (refine step_ops ?_; (first | (refine m_mov (by conv => lhs; whnf) ?_) | (refine m_nils ?_))) | refine end_ops ?_ | refine seq_ops ?_ | refine AW_seq ?_)
  refine step_ops ?_
  refine m_isnil_ro0 rfl fun b => ?_
  cases b
  · repeat (first | (refine step_ops ?_; (first | (refine m_mov (by conv => lhs; whnf) ?_) | (refine m_bsl0 ?_))) | refine end_ops ?_ | refine seq_ops ?_ | (refine cond_f rfl ?_ ?_; (· rfl)) | refine skip_then ?_)
    refine step_ops ?_
    refine m_appro (ys := []) (cs := []) (m := 0) (n := 0) rfl (by decide) rfl rfl rfl rfl (by decide) (by decide) ?_
    repeat (first | (refine step_ops ?_; (refine m_mov (by conv => lhs; whnf) ?_)) | refine end_ops ?_ | refine AW_ret ?_ | refine ret_done ?_)
    exact outs_ints (cs := []) rfl rfl rfl
  · repeat (first | (refine step_ops ?_; (refine m_nils ?_)) | refine end_ops ?_ | refine seq_ops ?_ | (refine cond_t rfl ?_ ?_; (· rfl)) | refine AW_ret ?_ | refine ret_done ?_ | refine ret_then ?_)
    exact outs_ints (cs := []) rfl rfl rfl
theorem slicesClone0_spec (L : List Int) (hL : L.length ≤ 1048576) : Sp Try.prog 71 [ints L] (newInts L) := by
  by_cases h1 : 1 ≤ L.length
  · exact slicesClone_spec L hL h1
  · obtain rfl : L = [] := by
      cases L with
      | nil => rfl
      | cons a l => simp at h1
    exact slicesClone_nil_spec
/-- What a search finds. -/
def srchR (o : Option (List Int)) : AV := .tup [newInts (o.getD []), .b o.isSome]
theorem fittingFrom_spec {f : FuncId} {fl : List AV} {n : Nat} {fits : List Int → Nat → Bool} (A : Asks Try.prog f fl n fits) (l : List Int) (g : Nat) (hn : n ≤ 1000) (hl : l.length < n) (hb : ∀ x ∈ l, 0 ≤ x ∧ x < n) (hg : g ≤ n) :
    Sp Try.prog 58 [.i n, ints l, .i g, .fn f fl fl.length] (srchR (goAt fits n l g).head?) := by
  unfold srchR
  refine spec_of Try.func58 rfl cc58 rfl ?_
  unfold ac58
  repeat (first | (refine step_ops ?_; (first | (refine m_mov (by conv => lhs; whnf) ?_) | (refine m_nils ?_))) | refine end_ops ?_ | refine seq_ops ?_)
  refine AW_scope (α := Unit) 0 (fun _ => False) (fun _ => st [] []) (fun _ => 0) rfl ?_ (fun _ hf => hf.elim)
  repeat (first | (refine step_ops ?_; (refine m_mov (by conv => lhs; whnf) ?_)) | refine seq_ops ?_)
  (refine step_ops ?_); (apply m_callo (slicesClone0_spec l (by omega))); (· repeat (first | exact lends_nil | (refine lends_cons ?_ ?_; (· (refine lend_ints ?_; first | rfl | omega))))); (· first | exact allv_ints _ | rfl | (simp; done))
  repeat (first | (refine step_ops ?_; (refine m_mov (by conv => lhs; whnf) ?_)) | refine end_ops ?_ | refine seq_ops ?_ | refine AW_seq ?_)
  refine AW_label ?_
  refine norm_then ?_
  repeat (first | refine AW_seq ?_ | refine AW_block ?_)
  refine AW_loop (α := List Int × Nat) (fun a => a.1.length ≤ n ∧ (∀ x ∈ a.1, 0 ≤ x ∧ x < n) ∧ a.2 ≤ n ∧ (goAt fits n a.1 a.2).head? = (goAt fits n l g).head?)
    (fun a => st [(0, .i n), (3, .fn f fl fl.length), (10, .sl 10 1 0 a.1.length), (11, .i a.2)] [(10, (true, a.1.map AV.i))]) (fun a => goMeas n a.1 a.2) (l, g) ⟨by show l.length ≤ n; omega, hb, hg, rfl⟩
    (Weak.trans (weak_move (r := 14) (q := 10) rfl (by decide) (by decide)) (weak_st ?_ ?_ ?_ rfl)) ?_
  · (repeat' (first | exact trivial | refine And.intro ?_ ?_)) <;> (first | rfl | skip)
    all_goals (simp (disch := decide) [tm_put_ne', tm_mem, tm_kill, tm_mv, tm_en3, kill_fn A.nokill, mv_fn A.nokill])
  · exact ⟨rfl, trivial⟩
  · simp [refsT, refsV, A.norefs, Am.look]
  rintro ⟨M, y⟩ ⟨hM, hMb, hy, hres⟩
  dsimp only at hM hMb hy hres ⊢
  by_cases hfull : M.length = n
  · have hr1 : (goAt fits n l g).head? = some M := by rw [← hres]; exact goAt_full _ _ hfull
    repeat (first | (refine step_ops ?_; (first | (refine m_mov (by conv => lhs; whnf) ?_) | (refine m_eql rfl rfl ?_) | (refine m_len_sl rfl ?_))) | refine end_ops ?_ | refine seq_ops ?_ | (refine cond_t rfl ?_ ?_; (· (refine decide_eq_true ?_; omega))) | refine AW_ret ?_ | refine ret_done ?_ | refine norm_then ?_ | refine AW_block ?_ | refine exit_round ?_ | refine AW_exit ?_ | refine exit_block ?_ | (refine exit_other ?_ ?_; (· decide)))
    rw [hr1]
    exact outs_tup2 (outs_ints rfl rfl rfl) (outs_b rfl)
  · have hMl : M.length < n := by omega
    by_cases hy2 : y < n
    · by_cases hf : fits M y = true
      · repeat (first | (refine step_ops ?_; ((try (refine g_yes rfl ?_ ?_; (· (refine decide_eq_true ?_; omega)))); (first | (refine m_mov (by conv => lhs; whnf) ?_) | (refine m_lss rfl rfl ?_) | (refine m_eql rfl rfl ?_) | (refine m_len_sl rfl ?_)))) | refine end_ops ?_ | refine seq_ops ?_ | (refine cond_f rfl ?_ ?_; (· (refine decide_eq_false ?_; omega))) | refine AW_block ?_)
        refine step_ops ?_
        refine g_yes rfl ?_ ?_
        · first | rfl | assumption | (refine decide_eq_true ?_; first | assumption | omega) | (refine nt ?_; first | assumption | omega) | (simp [*]; done)
        refine m_callf rfl A.call (A.spec M y (by omega) hMb hy2) ?_ ?_
        · exact asks_lend A.bears rfl (lends_cons (lend_sli (by rfl) rfl) (lends_cons lend_v lends_nil))
        repeat (first | (refine step_ops ?_; (first | (refine m_mov (by conv => lhs; whnf) ?_) | (refine m_pick_t rfl ?_ (by conv => lhs; whnf) ?_; (· (refine decide_eq_true ?_; omega))) | (refine m_bsl1 rfl rfl ?_) | (refine m_app1i rfl (by decide) (by rfl) (by first | rfl | omega | (simp; done)) rfl rfl ?_ (by decide) ?_; (· first | omega | (simp; omega))))) | refine end_ops ?_ | refine seq_ops ?_ | refine AW_ops ?_ | (refine cond_t rfl ?_ ?_; (· assumption)) | refine norm_block ?_)
        refine next_round (M ++ [(y : Int)], 0) ⟨by simp; omega, fun x hx => ?_, Nat.zero_le _, by rw [← hres]; exact congrArg _ (goAt_take _ _ hMl hy2 hf)⟩ (Weak.trans (weak_move (r := 45) (q := 10) rfl (by decide) (by decide)) (weak_st ?_ ?_ ?_ rfl)) ?_
        · rcases List.mem_append.1 hx with hx | hx
          · exact hMb x hx
          · rw [List.mem_singleton.1 hx]; omega
        · (repeat' (first | exact trivial | refine And.intro ?_ ?_)) <;> (first | rfl | skip)
          all_goals (simp (disch := decide) [tm_put_ne', tm_mem, tm_kill, tm_mv, tm_st, Am.look, kill_fn A.nokill, mv_fn A.nokill])
        · exact ⟨rfl, trivial⟩
        · simp [refsT, refsV, A.norefs, Am.look]
        · exact goMeas_take hMl hy2
      · have hf : fits M y = false := by simpa using hf
        repeat (first | (refine step_ops ?_; ((try (refine g_yes rfl ?_ ?_; (· (refine decide_eq_true ?_; omega)))); (first | (refine m_mov (by conv => lhs; whnf) ?_) | (refine m_lss rfl rfl ?_) | (refine m_eql rfl rfl ?_) | (refine m_len_sl rfl ?_)))) | refine end_ops ?_ | refine seq_ops ?_ | (refine cond_f rfl ?_ ?_; (· (refine decide_eq_false ?_; omega))) | refine AW_block ?_)
        refine step_ops ?_
        refine g_yes rfl ?_ ?_
        · first | rfl | assumption | (refine decide_eq_true ?_; first | assumption | omega) | (refine nt ?_; first | assumption | omega) | (simp [*]; done)
        refine m_callf rfl A.call (A.spec M y (by omega) hMb hy2) ?_ ?_
        · exact asks_lend A.bears rfl (lends_cons (lend_sli (by rfl) rfl) (lends_cons lend_v lends_nil))
        repeat (first | (refine step_ops ?_; (first | (refine m_mov (by conv => lhs; whnf) ?_) | (refine m_lss rfl rfl ?_) | (refine m_add rfl rfl ?_ ?_ ?_; (· omega); (· omega)) | (refine m_pick_t rfl ?_ (by conv => lhs; whnf) ?_; (· (refine decide_eq_true ?_; omega))))) | refine end_ops ?_ | refine seq_ops ?_ | refine AW_ops ?_ | (refine cond_t rfl ?_ ?_; (· (refine decide_eq_true ?_; omega))) | (refine cond_f rfl ?_ ?_; (· assumption)) | refine norm_block ?_)
        refine next_round (M, y + 1) ⟨hM, hMb, hy2, by rw [← hres]; exact congrArg _ (goAt_skip _ _ hMl hy2 hf)⟩ (weak_st ?_ ?_ ?_ rfl) ?_
        · (repeat' (first | exact trivial | refine And.intro ?_ ?_)) <;> (first | rfl | skip)
          all_goals (simp (disch := decide) [tm_put_ne', tm_put_none, tm_mem, tm_kill, tm_mv, tm_st, tm_en0, tm_en1, tm_en2, tm_en3, tm_en4, Am.look, kill_fn A.nokill, mv_fn A.nokill])
        · exact ⟨rfl, trivial⟩
        · simp [refsT, refsV, A.norefs, Am.look]
        · exact goMeas_skip hMl hy2
    · by_cases hM0 : M.length = 0
      · have hr1 : (goAt fits n l g).head? = none := by
          rw [← hres, List.length_eq_zero_iff.1 hM0, goAt_none _ _ (by omega) (by omega)]; rfl
        repeat (first | (refine step_ops ?_; (first | (first | (refine m_mov (by conv => lhs; whnf) ?_) | (refine m_lss rfl rfl ?_) | (refine m_eql rfl rfl ?_) | (refine m_len_sl rfl ?_) | (refine m_pick_f rfl ?_ (by conv => lhs; whnf) ?_; (· (refine decide_eq_false ?_; omega))) | (refine m_nils ?_)) | (refine g_noT rfl ?_ ?_; (· (refine decide_eq_false ?_; omega))))) | refine end_ops ?_ | refine seq_ops ?_ | (refine cond_t rfl ?_ ?_; (· (refine decide_eq_true ?_; omega))) | (refine cond_f rfl ?_ ?_; (· first | rfl | (refine decide_eq_false ?_; omega))) | refine AW_ret ?_ | refine ret_done ?_ | refine ret_then ?_ | refine AW_block ?_ | refine ret_block ?_ | refine ret_round ?_)
        rw [hr1]
        exact outs_tup2 (outs_ints rfl rfl rfl) (outs_b rfl)
      · obtain ⟨q, hq⟩ : ∃ q, M.length = q + 1 := ⟨M.length - 1, by omega⟩
        have hx := hMb _ (getD_mem (show q < M.length by omega))
        obtain ⟨k, hk⟩ := Int.eq_ofNat_of_zero_le hx.1
        have hlen : (M.take q).length = q := List.length_take_of_le (by omega)
        have hsp : M = M.take q ++ [(k : Int)] := by
          have h1 := take_snoc M q 0 (by omega)
          rw [List.take_of_length_le (by omega), hk] at h1
          exact h1
        have hgo : goAt fits n M y = goAt fits n (M.take q) (k + 1) := by
          conv => lhs; rw [hsp]
          rw [goAt_back _ _ (by omega) (by omega), Int.toNat_natCast]
        have hms : goMeas n (M.take q) (k + 1) < goMeas n M y := by
          have := goMeas_back (n := n) (l := M.take q) (x := (k : Int)) (g := y) (by omega)
          rw [← hsp, Int.toNat_natCast] at this
          exact this
        clear hsp
        repeat (first | (refine step_ops ?_; (first | (first | (refine m_mov (by conv => lhs; whnf) ?_) | (refine m_lss rfl rfl ?_) | (refine m_eql rfl rfl ?_) | (refine m_sub rfl rfl ?_ ?_ ?_; (· omega); (· omega)) | (refine m_len_sl rfl ?_) | (refine m_idx_sl rfl rfl ?_ ?_ ?_; (· omega); (· omega)) | (refine m_ld_pti rfl (by rfl) ?_ ?_; (· first | omega | (simp; omega))) | (refine m_pick_f rfl ?_ (by conv => lhs; whnf) ?_; (· (refine decide_eq_false ?_; omega)))) | (refine g_noT rfl ?_ ?_; (· (refine decide_eq_false ?_; omega))))) | refine end_ops ?_ | refine seq_ops ?_ | (refine cond_f rfl ?_ ?_; (· first | rfl | (refine decide_eq_false ?_; omega))) | refine AW_block ?_)
        rw [show (M.length : Int) - 1 = (q : Int) by omega]
        skip
        rw [show M.getD (0 + (q : Int).toNat * 1) 0 = (k : Int) by rw [Int.toNat_natCast, Nat.zero_add, Nat.mul_one]; exact hk]
        repeat (first | (refine step_ops ?_; (first | (refine m_mov (by conv => lhs; whnf) ?_) | (refine m_add rfl rfl ?_ ?_ ?_; (· omega); (· omega)))) | refine end_ops ?_ | refine AW_ops ?_)
        refine step_ops ?_
        refine m_cut_sl (l := 0) (h := q) rfl rfl ⟨_, rfl⟩ (Nat.zero_le _) (by omega) ?_
        repeat (first | (refine step_ops ?_; (refine m_mov (by conv => lhs; whnf) ?_)) | refine end_ops ?_ | refine norm_block ?_)
        refine next_round (M.take q, k + 1) ⟨by show (M.take q).length ≤ _; omega, fun x hx => hMb x (List.mem_of_mem_take hx), by show k + 1 ≤ n; omega, by rw [← hres]; exact congrArg _ hgo.symm⟩ (Weak.trans (weak_shrink 10 q rfl (allv_ints _)) (weak_st ?_ ?_ ?_ rfl)) hms
        · rw [hlen]
          (repeat' (first | exact trivial | refine And.intro ?_ ?_)) <;> (first | rfl | skip)
          all_goals (simp (disch := decide) [tm_put_ne', tm_put_none, tm_mem, tm_kill, tm_mv, tm_st, tm_en0, tm_en1, tm_en2, tm_en3, tm_en4, Am.look, kill_fn A.nokill, mv_fn A.nokill])
        · rw [List.map_take]
          exact ⟨rfl, trivial⟩
        · simp [refsT, refsV, A.norefs, Am.look]
end Go.Proofs.Ytbeflnnejofleaa
namespace Go.Am
variable [Go.Am.CodeBlk]
variable {P : Program} {own : Bool} {d : Option Nat} {s : AS} {K : AS → Prop} {N : Nat}
section
variable {x y z : Opd} {A B : List UInt8}
theorem m_eqk {q : IntKind} {a b : Int} (hx : s.ev x = .v (.int q a)) (hy : s.ev y = .v (.int q b)) (k : K (s.put d (.b (decide (a = b))))) : aop1 P own ⟨d, .bin .eql x y, none⟩ s K := by
  refine ⟨_, _, .bool (a == b), hx, hy, by simp [pbin], ?_⟩
  rw [show (a == b) = decide (a = b) from by rw [Bool.eq_iff_iff]; simp]
  exact k
end
/-- An operation, something being forgotten first. -/
theorem step_opsW {o : AOper} {l : List AOper} {s' : AS} {Q : AS → Prop} (hw : Weak s s') (h : aop1 P own o s' fun s' => aops P own l s' Q) : aops P own (o :: l) s Q := ⟨s', hw, h⟩

/- Results of which some lie in cells. -/
inductive RV where
  | t (n : Nat)
  | c (a k : Nat)
def resG1 (P : Program) : ResultVar → Option RV
  | .tmp t => some (.t t)
  | .cell a t => (shapeT P t).bind fun k => k.map fun k => .c a k
def resG (P : Program) (fn : Func) : Option (List RV) := fn.results.toList.mapM (resG1 P)
def rvOk (s : AS) : RV → AV → Prop
  | .t n, x => s.tm n = x
  | .c a k, x => ∃ r off fl cs, s.tm a = .pt r off ∧ s.hp r = some (fl, cs) ∧ off + k ≤ cs.length ∧ x = .agg ((cs.drop off).take k)
def rvsOk (s : AS) : List RV → List AV → Prop
  | [], [] => True
  | r :: rs, x :: xs => rvOk s r x ∧ rvsOk s rs xs
  | _, _ => False
def tupAV : List AV → AV
  | [x] => x
  | xs => .tup xs
theorem rv_run {w w' : World} {mu : Nat → Option Nat} {a' : Act} {phi : Nat → Option Nat} {ro : Nat → Prop} (hS : Sim w mu N s a'.tmps w' phi ro) {r : ResultVar} {rv : RV} {x : AV} (h1 : resG1 P r = some rv) (h2 : rvOk s rv x) :
    ∃ y, (resOne a'.tmps r).run P w' = .ok y w' ∧ SimV x (ctx w w' ro phi s) y := by
  cases r with
  | tmp t =>
    simp only [resG1, Option.some.injEq] at h1
    subst h1
    simp only [rvOk] at h2
    refine ⟨_, rfl, ?_⟩
    rw [← h2]
    exact hS.tms t
  | cell a t =>
    simp only [resG1] at h1
    rw [Option.bind_eq_some_iff] at h1
    obtain ⟨k0, hk0, h1⟩ := h1
    rw [Option.map_eq_some_iff] at h1
    obtain ⟨k, rfl, rfl⟩ := h1
    obtain ⟨r, off, fl, cs, hta, hra, hle, rfl⟩ := h2
    obtain ⟨dd, i, ht, hi, hik, hdd⟩ := shapeT_some hk0
    have hv := hS.tms a
    rw [hta] at hv
    simp only [SimV] at hv
    obtain ⟨_, _, b, hb', hy, cur1, e1, hcell1⟩ := hv
    obtain ⟨cur, e0, hcell, hsim, _⟩ := hS.cell hra hb' hcell1
    have hl := hsim.list
    have hlen := hl.length_le
    simp only [Array.length_toList] at hlen
    have hcell' : w'.heap[b]? = some (.cells cur e0 (0, 0)) := hcell
    have hld : (loadVar t ⟨b, off, none⟩).run P w' = .ok (.agg ((cur.toList.drop off).take k).toArray) w' := by
      have hrun := run_load_agg (P := P) (w := w') (b := b) (off := off) ht hi hdd hcell' (by omega)
      rw [hik] at hrun
      simpa [Instr.loadAt, Instr.sureAddr] using hrun
    refine ⟨.agg ((cur.toList.drop off).take k).toArray, by simp [resOne, hy, asAddr, hld], ?_⟩
    simp only [SimV]
    refine ⟨_, rfl, by simp; omega, ?_⟩
    exact ((hl.drop off).take k).shorter k (by simp; omega)
theorem rvs_run {w w' : World} {mu : Nat → Option Nat} {a' : Act} {phi : Nat → Option Nat} {ro : Nat → Prop} (hS : Sim w mu N s a'.tmps w' phi ro) : ∀ {rs : List ResultVar} {rvs : List RV} {xs : List AV}, rs.mapM (resG1 P) = some rvs → rvsOk s rvs xs →
    ∃ ys, (rs.mapM (m := Sem) (resOne a'.tmps)).run P w' = .ok ys w' ∧ SimL xs (ctx w w' ro phi s) ys ∧ ys.length = xs.length
  | [], rvs, xs, h1, h2 => by
    simp at h1
    subst h1
    cases xs with
    | nil => exact ⟨[], by simp, by simp [SimL], rfl⟩
    | cons => exact h2.elim
  | r :: rs, rvs, xs, h1, h2 => by
    rw [List.mapM_cons] at h1
    simp only [Option.bind_eq_bind, Option.bind_eq_some_iff, Option.pure_def, Option.some.injEq] at h1
    obtain ⟨rv, g1, rvs', g2, rfl⟩ := h1
    cases xs with
    | nil => exact h2.elim
    | cons x xs =>
      obtain ⟨y, k1, k2⟩ := rv_run hS g1 h2.1
      obtain ⟨ys, k3, k4, k5⟩ := rvs_run hS g2 h2.2
      refine ⟨y :: ys, ?_, ?_, by simp [k5]⟩
      · rw [List.mapM_cons]
        simp only [Sem.run_bind, k1, Result.andThen_ok, k3, Sem.run_pure]
      · simp only [SimL]; exact ⟨k2, k4⟩
end Go.Am
namespace Go.Am
variable [Go.Am.CodeBlk]
variable {P : Program} {own : Bool} {N : Nat} {s : AS} {K : AS → Prop} {d : Option Nat}
/-- A nil slice in a slot is a slice of an empty region. -/
theorem weak_nilslot (t q z : Nat) (fl : Bool) (ht : s.tm t = .v (.slice none 0 0)) (hq : s.hp q = none) (hqp : q < pbase) : Weak s ((s.mem q (fl, [])).put (some t) (.sl q z 0 0)) := by
  intro w0 mu N a w hS
  obtain ⟨hf, phi, ro, hS⟩ := hS
  have hS1 := hS.born hq hqp (fl, []) none rfl
  refine ⟨hf, _, ro, { hS1 with tms := fun t' => ?_ }⟩
  by_cases e : t' = t
  · subst e
    have h := hS.tms t'
    rw [ht] at h
    simp only [SimV] at h
    show SimV (if t' = t' then .sl q z 0 0 else _) _ _
    rw [if_pos rfl]
    simp only [SimV]
    exact ⟨rfl, by simp [ctx, AS.mem, AS.put], .inl ⟨by simp [ctx], trivial, trivial, h⟩⟩
  · show SimV (if t' = t then .sl q z 0 0 else (s.mem q (fl, [])).tm t') _ _
    rw [if_neg e]
    exact hS1.tms t'
/-- A nil slice in a slot is an empty slice that is read. -/
theorem weak_nilro (t z : Nat) (ht : s.tm t = .v (.slice none 0 0)) : Weak s (s.put (some t) (.ro false z [] 0)) := by
  intro w0 mu N a w hS
  obtain ⟨hf, phi, ro, hS⟩ := hS
  refine ⟨hf, phi, ro, { hS with tms := fun t' => ?_ }⟩
  by_cases e : t' = t
  · subst e
    have h := hS.tms t'
    rw [ht] at h
    simp only [SimV] at h
    show SimV (if t' = t' then .ro false z [] 0 else _) _ _
    rw [if_pos rfl]
    simp only [SimV]
    exact .inl ⟨trivial, trivial, none, 0, h, by simp⟩
  · show SimV (if t' = t then .ro false z [] 0 else s.tm t') _ _
    rw [if_neg e]
    exact hS.tms t'
/-- How long an exact nil is. -/
theorem m_len_nil {x : Opd} (hx : s.ev x = .v (.slice none 0 0)) (k : K (s.put d (.i (0 : Nat)))) : aop1 P own ⟨d, .len x, none⟩ s K := .inr (.inr ⟨none, 0, 0, hx, k⟩)
/-- The state's regions behind a call that handed out these, under the names g. -/
def outR (s : AS) (g : Nat → Nat) (ho : List (Nat × (Bool × List AV))) : Hp := fun q => (look (ho.map fun p => (g p.1, renR g p.2)) q).or (s.hp q)
theorem look_isSome {β : Type} {l : List (Nat × β)} {t : Nat} : (look l t).isSome = true ↔ t ∈ l.map (·.1) := by
  induction l with
  | nil => simp [look]
  | cons p l ih =>
    obtain ⟨k, x⟩ := p
    simp only [look, List.map_cons, List.mem_cons]
    by_cases e : t = k
    · simp [e]
    · rw [if_neg e, ih]; simp [e]
theorem look_map {g : Nat → Nat} {h : (Bool × List AV) → (Bool × List AV)} : ∀ {l : List (Nat × (Bool × List AV))} {r : Nat} {c : Bool × List AV}, (l.map fun p => g p.1).Nodup → look l r = some c → look (l.map fun p => (g p.1, h p.2)) (g r) = some (h c)
  | [], _, _, _, e => by simp [look] at e
  | (k, x) :: l, r, c, hn, e => by
    simp only [look, List.map_cons] at e ⊢
    simp only [List.map_cons, List.nodup_cons] at hn
    by_cases hk : r = k
    · subst hk
      rw [if_pos rfl] at e ⊢
      cases e
      rfl
    · rw [if_neg hk] at e
      have hm := look_mem e
      have hne : ¬ g r = g k := fun e2 => hn.1 (List.mem_map.2 ⟨(r, c), hm, e2⟩)
      rw [if_neg hne]
      exact look_map hn.2 e
theorem look_inj {g : Nat → Nat} : ∀ {l : List (Nat × (Bool × List AV))} {r r' : Nat}, (l.map fun p => g p.1).Nodup → r ∈ l.map (·.1) → r' ∈ l.map (·.1) → g r = g r' → r = r'
  | [], _, _, _, h, _, _ => by simp at h
  | (k, x) :: l, r, r', hn, h1, h2, e => by
    simp only [List.map_cons, List.nodup_cons, List.mem_cons] at hn h1 h2
    have key : ∀ q, q ∈ l.map (·.1) → g q ∈ l.map fun p => g p.1 := fun q hq => by
      obtain ⟨p, hp, rfl⟩ := List.mem_map.1 hq
      exact List.mem_map.2 ⟨p, hp, rfl⟩
    rcases h1 with rfl | h1
    · rcases h2 with rfl | h2
      · rfl
      · exact absurd (e ▸ key _ h2) hn.1
    · rcases h2 with rfl | h2
      · exact absurd (e ▸ key _ h1) hn.1
      · exact look_inj hn.2 h1 h2 e
/-- Each region of a list is there, under its name. -/
def HasI (s : AS) (g : Nat → Nat) : List (Nat × (Bool × List AV)) → Prop
  | [] => True
  | (r, c) :: l => s.hp (g r) = some (renR g c) ∧ HasI s g l
def HasO (s : AS) (g : Nat → Nat) : List (Nat × (Bool × List AV)) → Prop
  | [] => True
  | (r, c) :: l => (∃ c0, s.hp (g r) = some c0 ∧ (c0 = renR g c ∨ (c.2 = [] ∧ c0.2 = []))) ∧ HasO s g l
theorem HasI.all {g : Nat → Nat} : ∀ {l : List (Nat × (Bool × List AV))}, HasI s g l → ∀ p ∈ l, s.hp (g p.1) = some (renR g p.2)
  | [], _, _, hp => by simp at hp
  | _ :: _, h, p, hp => by
    rcases List.mem_cons.1 hp with rfl | hp
    · exact h.1
    · exact HasI.all h.2 p hp
theorem HasO.all {g : Nat → Nat} : ∀ {l : List (Nat × (Bool × List AV))}, HasO s g l → ∀ p ∈ l, ∃ c0, s.hp (g p.1) = some c0 ∧ (c0 = renR g p.2 ∨ (p.2.2 = [] ∧ c0.2 = []))
  | [], _, _, hp => by simp at hp
  | _ :: _, h, p, hp => by
    rcases List.mem_cons.1 hp with rfl | hp
    · exact h.1
    · exact HasO.all h.2 p hp
/-- A call that is lent the regions of one list and hands back those of another. -/
theorem m_callR {f : FuncId} {args : List Opd} {asx : List AV} {hl ho : List (Nat × (Bool × List AV))} {res : AV} (g : Nat → Nat) (hs : SpH P f asx (look hl) res (look ho)) (ha : args.map s.ev = renL g asx)
    (hha : ownL true asx = true) (hra : refsL (fun r => (look hl r).isSome) asx = true)
    (hI : HasI s g hl) (hnd : (ho.map fun p => g p.1).Nodup) (hst : ∀ p ∈ hl, p.1 ∈ ho.map (·.1)) (hfr : ∀ p ∈ ho, p.1 ∈ hl.map (·.1) ∨ (s.hp (g p.1) = none ∧ g p.1 < pbase))
    (hoI : ∀ p ∈ hl, ownL true p.2.2 = true ∧ refsL (fun r => (look hl r).isSome) p.2.2 = true) (hoO : ∀ p ∈ ho, ownL false p.2.2 = true) (hoR : ownV false res = true)
    (k : K (AS.put ⟨s.tm, outR s g ho⟩ d (renV g res))) : aop1 P true ⟨d, .call f args, none⟩ s K := by
  have has := hI.all
  refine m_callh g hs ?_ ⟨fun r c hc => has _ (look_mem hc), fun r r' h1 h2 e => look_inj hnd (look_isSome.1 h1) (look_isSome.1 h2) e, fun r hr => ?_, fun r hr hn => ?_, fun r c hc => ?_, fun q hq => ?_, fun r c hc => hoI _ (look_mem hc), fun r c hc => hoO _ (look_mem hc), hoR⟩ k
  · rw [ha]
    exact lendsH_ren (fun r c hc => by rw [has _ (look_mem hc)]; rfl) hha hra
  · obtain ⟨p, hp, rfl⟩ := List.mem_map.1 (look_isSome.1 hr)
    exact look_isSome.2 (hst p hp)
  · obtain ⟨p, hp, rfl⟩ := List.mem_map.1 (look_isSome.1 hr)
    rcases hfr p hp with h1 | h1
    · have := look_isSome.2 h1
      rw [hn] at this
      cases this
    · exact h1
  · show (look _ (g r)).or _ = _
    rw [look_map hnd hc]
    rfl
  · show (look (ho.map fun p => (g p.1, renR g p.2)) q).or _ = _
    have : look (ho.map fun p => (g p.1, renR g p.2)) q = none := by
      cases h : look (ho.map fun p => (g p.1, renR g p.2)) q with
      | none => rfl
      | some c =>
        obtain ⟨p, hp, e⟩ := List.mem_map.1 (look_mem h)
        cases e
        exact absurd rfl (hq p.1 (look_isSome.2 (List.mem_map.2 ⟨p, hp, rfl⟩)))
    rw [this]
    rfl
/-- What is asked of such lists. -/
theorem static_R {hl ho : List (Nat × (Bool × List AV))} {res : AV} (h1 : ∀ p ∈ hl, pbase ≤ p.1) (h2 : ∀ p ∈ ho, ownL false p.2.2 = true ∧ refsL (fun r => (look ho r).isSome) p.2.2 = true) (h3 : ownV false res = true ∧ refsV (fun r => (look ho r).isSome) res = true) : Static (look hl) res (look ho) :=
  ⟨fun r hr => by
    obtain ⟨p, hp, rfl⟩ := List.mem_map.1 (look_isSome.1 hr)
    exact h1 p hp, fun r c hc => h2 _ (look_mem hc), h3⟩
/-- The end of such a function. -/
theorem ret_R {ts : List Nat} {res : AV} {hl ho : List (Nat × (Bool × List AV))} (g : Nat → Nat) (h1 : resAV s ts = renV g res) (hO : HasO s g ho) (h3 : ∀ p ∈ hl, g p.1 = p.1 ∧ p.1 ∈ ho.map (·.1))
    (h4 : ∀ p ∈ ho, p.1 ∈ hl.map (·.1) ∨ g p.1 < pbase) (h5 : (ho.map fun p => g p.1).Nodup) : DoneH ts res (look hl) (look ho) .ret s := by
  have h2 := hO.all
  refine ret_doneh g h1 (fun r c hc => h2 _ (look_mem hc)) (fun r hr => ?_) (fun r hr hn => ?_) fun r r' a b e => look_inj h5 (look_isSome.1 a) (look_isSome.1 b) e
  · obtain ⟨p, hp, rfl⟩ := List.mem_map.1 (look_isSome.1 hr)
    exact ⟨(h3 p hp).1, look_isSome.2 (h3 p hp).2⟩
  · obtain ⟨p, hp, rfl⟩ := List.mem_map.1 (look_isSome.1 hr)
    rcases h4 p hp with k | k
    · have := look_isSome.2 k
      rw [hn] at this
      cases this
    · exact k
theorem norm_R {ts : List Nat} {res : AV} {hl ho : List (Nat × (Bool × List AV))} (g : Nat → Nat) (h1 : resAV s ts = renV g res) (hO : HasO s g ho) (h3 : ∀ p ∈ hl, g p.1 = p.1 ∧ p.1 ∈ ho.map (·.1))
    (h4 : ∀ p ∈ ho, p.1 ∈ hl.map (·.1) ∨ g p.1 < pbase) (h5 : (ho.map fun p => g p.1).Nodup) : DoneH ts res (look hl) (look ho) .normal s := ret_R (hl := hl) g h1 hO h3 h4 h5
/-- Regions under other names; cells that lead nowhere stay asx they are. -/
def HasJ (s : AS) (f : Nat → Nat) : List (Nat × (Bool × List AV)) → Prop
  | [] => True
  | (r, (true, cs)) :: l => s.hp (f r) = some (true, cs) ∧ HasJ s f l
  | (r, (false, cs)) :: l => s.hp (f r) = some (false, renL f cs) ∧ HasJ s f l
theorem HasJ.at {f : Nat → Nat} : ∀ {h : List (Nat × (Bool × List AV))} {r : Nat} {c : Bool × List AV}, HasJ s f h → (r, c) ∈ h → ∃ c0, s.hp (f r) = some c0 ∧ cellsRen f c0 c
  | [], _, _, _, hm => by simp at hm
  | (k, (true, cs)) :: l, r, c, h, hm => by
    rcases List.mem_cons.1 hm with e | hm
    · cases e; exact ⟨_, h.1, .inl ⟨rfl, rfl⟩⟩
    · exact HasJ.at h.2 hm
  | (k, (false, cs)) :: l, r, c, h, hm => by
    rcases List.mem_cons.1 hm with e | hm
    · cases e; exact ⟨_, h.1, .inr ⟨rfl, .inl rfl⟩⟩
    · exact HasJ.at h.2 hm
/-- What is not told is forgotten, and what is told may get other names. -/
theorem weak_stR {l : List (Nat × AV)} {h : List (Nat × (Bool × List AV))} (f : Nat → Nat) (hl : HasF s f l) (hh : HasJ s f h) (hnd : (h.map fun p => f p.1).Nodup) (hpb : ∀ p ∈ h, (p.1 < pbase ∧ f p.1 < pbase) ∨ (pbase ≤ p.1 ∧ f p.1 = p.1))
    (hr : refsT (fun r => (look h r).isSome) l = true) (hrh : refsH (fun r => (look h r).isSome) h = true) : Weak s (st l h) := by
  refine weak_ren f (fun t => ?_) (fun r c' hc => hh.at (look_mem hc)) (fun r r' h1 h2 e => look_inj hnd (look_isSome.1 h1) (look_isSome.1 h2) e) (fun r hr' => ?_) (fun t => ?_) (fun r cs hc => ?_)
  · show (look l t).getD .any = .any ∨ s.tm t = renV f ((look l t).getD .any)
    cases hx : look l t with
    | none => exact .inl rfl
    | some x => exact .inr (look_hasF hl hx)
  · obtain ⟨p, hp, rfl⟩ := List.mem_map.1 (look_isSome.1 hr')
    exact hpb p hp
  · show refsV (fun r => (look h r).isSome) ((look l t).getD .any) = true
    cases hx : look l t with
    | none => rfl
    | some x => exact look_refs hr hx
  · have h1 : (false || refsL (fun r => (look h r).isSome) cs) = true := look_refsH hrh hc
    rw [Bool.false_or] at h1
    exact h1
/-- A loop that is left in many places goes on from one state. -/
def CutQ (R : AS) (Q : Exit → AS → Prop) : Exit → AS → Prop
  | .normal, s => Weak s R
  | e, s => Q e s
theorem AW_cutloop {id : Nat} {c y : ACode} {Q : Exit → AS → Prop} (R : AS) (k : AW P N y R Q) (h : AW P N (.loop c) s (InBlock id (CutQ R Q))) : AW P N (.loop c) s (InBlock id (Then (fun s' => AW P N y s' Q) Q)) := by
  have key : ∀ e s', CutQ R Q e s' → Then (fun s' => AW P N y s' Q) Q e s' := by
    intro e s' he
    cases e <;> first | exact AW_weak he k | exact he
  refine AW_mono h fun e s' he => ?_
  cases e with
  | exit i =>
    simp only [InBlock] at he ⊢
    split at he
    · rename_i hi
      rw [if_pos hi]
      exact key _ _ he
    · rename_i hi
      rw [if_neg hi]
      exact key _ _ he
  | normal => exact key .normal _ he
  | ret => exact key .ret _ he
  | goto l => exact key (.goto l) _ he
  | panic x => exact key (.panic x) _ he
  | outgrown => exact key .outgrown _ he
end Go.Am
namespace Go.Am
variable [Go.Am.CodeBlk]
/-- A member of what goes on is found. -/
theorem goOn_len {fits : List Int → Nat → Bool} {n k : Nat} {l m : List Int} (h : m ∈ goOn fits n k l) : m.length = l.length + k := by
  obtain ⟨r, rfl, hr⟩ := goOn_shape fits n _ _ _ h
  rw [List.length_append, hr]
/-- The first that goes on from l, behind a list if that is not empty. -/
def fstB (fits : List Int → Nat → Bool) (n k : Nat) (l bh : List Int) : Option (List Int) := if bh = [] then (goOn fits n k l).head? else (goOn fits n k l).find? (fun m => comesB bh m)
theorem fstB_leaf {fits : List Int → Nat → Bool} {n : Nat} {l bh m : List Int} (h : fstB fits n 0 l bh = some m) : m = l := by
  unfold fstB at h
  split at h
  · cases h; rfl
  · have := List.mem_of_find?_eq_some h
    simpa [goOn] using this
/-- What is found among the first nexts. -/
def partB (fits : List Int → Nat → Bool) (n k : Nat) (l bh : List Int) (x : Nat) : Option (List Int) := (List.range x).findSome? fun x => if fits l x then fstB fits n k (l ++ [(x : Int)]) bh else none
theorem partB_zero (fits : List Int → Nat → Bool) (n k : Nat) (l bh : List Int) : partB fits n k l bh 0 = none := rfl
theorem partB_succ (fits : List Int → Nat → Bool) (n k : Nat) (l bh : List Int) (x : Nat) : partB fits n k l bh (x + 1) = (partB fits n k l bh x).or (if fits l x then fstB fits n k (l ++ [(x : Int)]) bh else none) := by
  unfold partB
  rw [List.range_succ, List.findSome?_append]
  simp
theorem findSome_filter {α β : Type} (p : α → Bool) (f : α → Option β) : ∀ l : List α, (l.filter p).findSome? f = l.findSome? fun x => if p x then f x else none
  | [] => rfl
  | a :: l => by
    simp only [List.filter_cons, List.findSome?_cons]
    cases p a
    · simp only [Bool.false_eq_true, if_false]
      exact findSome_filter p f l
    · simp only [if_true, List.findSome?_cons, findSome_filter p f l]
theorem partB_all (fits : List Int → Nat → Bool) (n k : Nat) (l bh : List Int) : partB fits n k l bh n = fstB fits n (k + 1) l bh := by
  unfold partB fstB
  by_cases h : bh = []
  · simp only [if_pos h]
    rw [goOn, List.head?_flatMap, findSome_filter]
  · simp only [if_neg h]
    rw [goOn, List.find?_flatMap, findSome_filter]
end Go.Am
namespace Go.Proofs.Ytbeflnnejofleaa
variable [Go.Am.CodeBlk]
open Go.Am
attribute [local irreducible] AW Outs Weak Lends Lend Sp aops atree aop1 Then Round InBlock Done
attribute [local irreducible] SpM DoneM SpH DoneH
/-- Nothing is found yet; something is found; what is found. -/
abbrev hE (l : List Int) : List (Nat × (Bool × List AV)) := [(pbase, (true, [.v (.slice none 0 0)])), (pbase + 1, (true, l.map AV.i))]
abbrev hF (l m : List Int) : List (Nat × (Bool × List AV)) := [(pbase, (false, [.sl (pbase + 2) 1 0 1])), (pbase + 1, (true, l.map AV.i)), (pbase + 2, (false, [.sl (pbase + 3) 1 0 m.length])), (pbase + 3, (true, m.map AV.i))]
abbrev oL (l : List Int) : List (Nat × (Bool × List AV)) := [(pbase, (false, [.sl nbase 1 0 1])), (pbase + 1, (true, l.map AV.i)), (nbase, (false, [.sl (pbase + 1) 1 0 l.length]))]
abbrev oI (l m : List Int) : List (Nat × (Bool × List AV)) := [(pbase, (false, [.sl nbase 1 0 1])), (pbase + 1, (true, l.map AV.i)), (nbase, (false, [.sl (nbase + 1) 1 0 m.length])), (nbase + 1, (true, m.map AV.i))]
abbrev gArgs (F l bh : List Int) : List AV := [ints F, .sl (pbase + 1) 1 0 l.length, ints bh, .i 1, .pt pbase 0]
theorem giLook_full (F l bh m : List Int) : SpH Try.prog 41 (gArgs F l bh) (Am.look (hF l m)) (.tup []) (Am.look (hF l m)) := by
  have hst : Static (Am.look (hF l m)) (.tup []) (Am.look (hF l m)) := static_R (by simp) (by simp [ownL, ownV, refsL, refsV, ownL_ints, refsL_ints, Am.look]) (by simp [ownV, ownL, refsV, refsL])
  refine specH_of Try.func41 rfl cc41 rfl (by first | exact static_mat1 _ | exact static_mat2 _ _ | assumption) ?_
  unfold ac41
  repeat (first | (refine step_ops ?_; (first | (refine m_mov (by conv => lhs; whnf) ?_) | (refine m_eql rfl rfl ?_) | (refine m_len_sl rfl ?_) | (apply m_ld_pt; (· rfl); (· rfl); (· rfl)) | (refine m_nchk rfl ?_))) | refine end_ops ?_ | refine seq_ops ?_ | (refine cond_t rfl ?_ ?_; (· rfl)) | refine AW_seq ?_ | refine AW_ret ?_ | refine ret_then ?_)
  refine ret_R id (by rfl) ?_ (by simp) (by simp) (by simp)
  (repeat' (first | exact trivial | refine And.intro ?_ ?_ | (refine ⟨_, rfl, .inl ?_⟩; first | rfl | exact congrArg (Prod.mk true) (renL_ints _ _).symm | exact congrArg (Prod.mk true) (txs_ren _ _).symm)))
theorem giBefore_spec (a b : List Int) (ha : a.length ≤ 1048576) (hl : a.length = b.length) : Sp Try.prog 60 [ints a, ints b] (.b (comesB a b)) := by
  refine spec_of Try.func60 rfl cc60 rfl ?_
  unfold ac60
  repeat (first | (refine step_ops ?_; (first | (refine m_mov (by conv => lhs; whnf) ?_) | (refine m_len_ro rfl ?_))) | refine end_ops ?_ | refine seq_ops ?_ | refine AW_seq ?_ | refine AW_block ?_)
  refine AW_loop (α := Nat) (fun k => k ≤ a.length ∧ a.take k = b.take k) (fun k => st [(1, ints b), (7, ints a), (8, .i a.length), (9, .i k)] []) (fun k => a.length - k) 0 ⟨Nat.zero_le _, rfl⟩ (weak_st ?_ ?_ rfl rfl) ?_
  · (repeat' (first | exact trivial | refine And.intro ?_ ?_)) <;> (first | rfl | skip)
  · trivial
  rintro k ⟨hk, he⟩
  by_cases hc : k < a.length
  · by_cases hx : a.getD k 0 = b.getD k 0
    · repeat (first | (refine step_ops ?_; (first | (refine m_mov (by conv => lhs; whnf) ?_) | (refine m_lss rfl rfl ?_) | (refine m_neq rfl rfl ?_) | (refine m_add rfl rfl ?_ ?_ ?_; (· omega); (· omega)) | (refine m_idx1_ro rfl rfl ?_ ?_; (· omega)) | (refine m_ld_rpi rfl ?_ ?_; (· omega)))) | refine end_ops ?_ | refine seq_ops ?_ | refine AW_ops ?_ | (refine cond_t rfl ?_ ?_; (· (refine decide_eq_true ?_; omega))) | (refine cond_f rfl ?_ ?_; (· (refine decide_eq_false ?_; omega))) | refine skip_then ?_ | refine AW_seq ?_ | refine norm_then ?_ | refine AW_block ?_ | refine norm_block ?_ | refine AW_skip ?_)
      refine next_round (k + 1) ⟨hc, by rw [take_snoc a k 0 hc, take_snoc b k 0 (by omega), he, hx]⟩ (weak_st ?_ ?_ rfl rfl) ?_
      · (repeat' (first | exact trivial | refine And.intro ?_ ?_)) <;> (first | rfl | skip)
      · trivial
      · omega
    · have h1 : a = a.take k ++ a.getD k 0 :: a.drop (k + 1) := by
        have h2 := List.take_append_drop (k + 1) a
        rw [take_snoc a k 0 hc, List.append_assoc] at h2
        exact h2.symm
      have h2 : b = a.take k ++ b.getD k 0 :: b.drop (k + 1) := by
        have h2 := List.take_append_drop (k + 1) b
        rw [take_snoc b k 0 (by omega), List.append_assoc, ← he] at h2
        exact h2.symm
      have h3 : comesB a b = decide (a.getD k 0 < b.getD k 0) := by
        conv => lhs; rw [h1, h2]
        rw [comesB_append]
        simp only [comesB, if_neg hx]
      repeat (first | (refine step_ops ?_; (first | (refine m_mov (by conv => lhs; whnf) ?_) | (refine m_lss rfl rfl ?_) | (refine m_neq rfl rfl ?_) | (refine m_idx1_ro rfl rfl ?_ ?_; (· omega)) | (refine m_ld_rpi rfl ?_ ?_; (· omega)))) | refine end_ops ?_ | refine seq_ops ?_ | (refine cond_t rfl ?_ ?_; (· first | (refine decide_eq_true ?_; assumption) | (refine decide_eq_true ?_; omega))) | refine skip_then ?_ | refine AW_seq ?_ | refine AW_ret ?_ | refine ret_done ?_ | refine ret_then ?_ | refine AW_block ?_ | refine ret_block ?_ | refine ret_round ?_)
      exact outs_b h3.symm
  · obtain rfl : k = a.length := by omega
    have h3 : comesB a b = false := by
      rw [List.take_length, List.take_of_length_le (by omega)] at he
      rw [← he, comesB_self]
    rw [h3]
    repeat (first | (refine step_ops ?_; (first | (refine m_mov (by conv => lhs; whnf) ?_) | (refine m_lss rfl rfl ?_))) | refine end_ops ?_ | refine seq_ops ?_ | (refine cond_f rfl ?_ ?_; (· (refine decide_eq_false ?_; omega))) | refine AW_seq ?_ | refine AW_ret ?_ | refine ret_done ?_ | refine norm_then ?_ | refine exit_then ?_ | refine exit_round ?_ | refine AW_exit ?_ | refine exit_block ?_)
    exact outs_b rfl
/-- What is found where the list is full. -/
def lefB (l bh : List Int) : Bool := decide (bh = []) || comesB bh l
theorem giLook_leafN (F l bh : List Int) (hn : F.length ≤ 9) (hl : l.length = F.length) (hb : bh = [] ∨ bh.length = F.length) (h : lefB l bh = false) : SpH Try.prog 41 (gArgs F l bh) (Am.look (hE l)) (.tup []) (Am.look (hE l)) := by
  have hst : Static (Am.look (hE l)) (.tup []) (Am.look (hE l)) := static_R (by simp) (by simp [ownL, ownV, refsL, refsV, ownL_ints, refsL_ints, Am.look]) (by simp [ownV, ownL, refsV, refsL])
  unfold lefB at h
  simp only [Bool.or_eq_false_iff, decide_eq_false_iff_not] at h
  have hbl := hb.resolve_left h.1
  have hbp : 0 < bh.length := List.length_pos_iff.2 h.1
  have hc := h.2
  refine specH_of Try.func41 rfl cc41 rfl (by first | exact static_mat1 _ | exact static_mat2 _ _ | assumption) ?_
  unfold ac41
  repeat (first | (refine step_ops ?_; ((try (refine g_yes rfl ?_ ?_; (· (refine decide_eq_false ?_; omega)))); (first | (refine m_mov (by conv => lhs; whnf) ?_) | (refine m_eql rfl rfl ?_) | (refine m_len_ro rfl ?_) | (refine m_len_sl rfl ?_) | (refine m_len_nil rfl ?_) | (apply m_ld_pt; (· rfl); (· rfl); (· rfl)) | (refine m_nchk rfl ?_)))) | refine end_ops ?_ | refine seq_ops ?_ | (refine cond_t rfl ?_ ?_; (· (refine decide_eq_true ?_; omega))) | (refine cond_f rfl ?_ ?_; (· rfl)) | refine skip_then ?_ | refine AW_seq ?_)
  refine step_ops ?_; (refine g_yes rfl ?_ ?_; (· first | (fail) | ((refine decide_eq_false ?_; omega))); (apply m_call (giBefore_spec bh l (by omega) (by omega)))); (· repeat (first | exact lends_nil | (refine lends_cons ?_ ?_; (· (first | (refine lend_ints ?_; first | rfl | omega) | (refine lend_sli (by rfl) ?_; first | rfl | omega | (simp; done)))))))
  rw [hc]
  repeat (first | (refine step_ops ?_; (refine m_pick_f rfl ?_ (by conv => lhs; whnf) ?_; (· (refine decide_eq_false ?_; omega)))) | refine end_ops ?_ | (refine cond_f rfl ?_ ?_; (· rfl)) | refine skip_then ?_ | refine AW_ret ?_ | refine ret_then ?_)
  refine ret_R id (by rfl) ?_ (by simp) (by simp) (by simp)
  (repeat' (first | exact trivial | refine And.intro ?_ ?_ | (refine ⟨_, rfl, .inl ?_⟩; first | rfl | exact congrArg (Prod.mk true) (renL_ints _ _).symm | exact congrArg (Prod.mk true) (txs_ren _ _).symm)))
theorem giLook_leafY (F l bh : List Int) (hn : F.length ≤ 9) (hl : l.length = F.length) (hb : bh = [] ∨ bh.length = F.length) (h : lefB l bh = true) : SpH Try.prog 41 (gArgs F l bh) (Am.look (hE l)) (.tup []) (Am.look (oL l)) := by
  have hst : Static (Am.look (hE l)) (.tup []) (Am.look (oL l)) := static_R (by simp) (by simp [ownL, ownV, refsL, refsV, ownL_ints, refsL_ints, Am.look, nbase, pbase]) (by simp [ownV, ownL, refsV, refsL])
  unfold lefB at h
  simp only [Bool.or_eq_true, decide_eq_true_eq] at h
  refine specH_of Try.func41 rfl cc41 rfl (by first | exact static_mat1 _ | exact static_mat2 _ _ | assumption) ?_
  unfold ac41
  by_cases he : bh = []
  case' pos =>
    have hbl : bh.length = 0 := by rw [he]; rfl
    repeat (first | (refine step_ops ?_; (first | (first | (refine m_mov (by conv => lhs; whnf) ?_) | (refine m_eql rfl rfl ?_) | (refine m_len_ro rfl ?_) | (refine m_len_sl rfl ?_) | (refine m_len_nil rfl ?_) | (apply m_ld_pt; (· rfl); (· rfl); (· rfl)) | (refine m_pick_t rfl ?_ (by conv => lhs; whnf) ?_; (· (refine decide_eq_true ?_; omega))) | (refine m_nchk rfl ?_)) | (refine g_noF rfl ?_ ?_; (· (refine decide_eq_true ?_; omega))))) | refine end_ops ?_ | refine seq_ops ?_ | refine AW_ops ?_ | (refine cond_t rfl ?_ ?_; (· first | rfl | (refine decide_eq_true ?_; omega))) | (refine cond_f rfl ?_ ?_; (· rfl)) | refine skip_then ?_ | refine AW_seq ?_)
  case' neg =>
    have hbl := hb.resolve_left he
    have hbp : 0 < bh.length := List.length_pos_iff.2 he
    have hc := h.resolve_left he
    repeat (first | (refine step_ops ?_; ((try (refine g_yes rfl ?_ ?_; (· (refine decide_eq_false ?_; omega)))); (first | (refine m_mov (by conv => lhs; whnf) ?_) | (refine m_eql rfl rfl ?_) | (refine m_len_ro rfl ?_) | (refine m_len_sl rfl ?_) | (refine m_len_nil rfl ?_) | (apply m_ld_pt; (· rfl); (· rfl); (· rfl)) | (refine m_nchk rfl ?_)))) | refine end_ops ?_ | refine seq_ops ?_ | (refine cond_t rfl ?_ ?_; (· (refine decide_eq_true ?_; omega))) | (refine cond_f rfl ?_ ?_; (· rfl)) | refine skip_then ?_ | refine AW_seq ?_)
    refine step_ops ?_; (refine g_yes rfl ?_ ?_; (· first | (fail) | ((refine decide_eq_false ?_; omega))); (apply m_call (giBefore_spec bh l (by omega) (by omega)))); (· repeat (first | exact lends_nil | (refine lends_cons ?_ ?_; (· (first | (refine lend_ints ?_; first | rfl | omega) | (refine lend_sli (by rfl) ?_; first | rfl | omega | (simp; done)))))))
    rw [hc]
    repeat (first | (refine step_ops ?_; (first | (refine m_mov (by conv => lhs; whnf) ?_) | (apply m_ld_pt; (· rfl); (· rfl); (· rfl)) | (refine m_pick_f rfl ?_ (by conv => lhs; whnf) ?_; (· (refine decide_eq_false ?_; omega))) | (refine m_nchk rfl ?_))) | refine end_ops ?_ | refine AW_ops ?_ | (refine cond_t rfl ?_ ?_; (· rfl)))
  all_goals
    refine step_ops ?_
    refine m_bsl1d rfl rfl ?_
    refine step_opsW (weak_nilslot 34 2000 1 false rfl rfl (by decide)) ?_
    refine m_app1d rfl (by decide) rfl rfl rfl rfl rfl (by decide) (by decide) ?_
    repeat (refine step_ops ?_; (refine m_nchk rfl ?_))
    refine step_opsW (weak_deep (r := pbase) rfl (by simp) rfl) ?_
    refine m_st rfl rfl rfl (by simp) rfl ?_
    repeat (first | refine end_ops ?_ | refine AW_ret ?_ | refine norm_then ?_ | refine ret_then ?_)
    refine ret_R (fun r => if r = nbase then 37 else r) (by rfl) ?_ (by simp [nbase, pbase]) (by simp [nbase, pbase]) (by simp [nbase, pbase])
    (repeat' (first | exact trivial | refine And.intro ?_ ?_ | (refine ⟨_, rfl, .inl ?_⟩; first | rfl | exact congrArg (Prod.mk true) (renL_ints _ _).symm | exact congrArg (Prod.mk true) (txs_ren _ _).symm)))
end Go.Proofs.Ytbeflnnejofleaa
namespace Go.Proofs.Ytbeflnnejofleaa
variable [Go.Am.CodeBlk]
open Go.Am
attribute [local irreducible] AW Outs Weak Lends Lend Sp aops atree aop1 Then Round InBlock Done
attribute [local irreducible] SpM DoneM SpH DoneH
/-- What is handed out behind the search. -/
def oG (l : List Int) : Option (List Int) → List (Nat × (Bool × List AV))
  | none => hE l
  | some m => oI l m
theorem oG_static (l : List Int) (T : Option (List Int)) : Static (Am.look (hE l)) (.tup []) (Am.look (oG l T)) := by
  cases T with
  | none => exact static_R (by simp) (by simp [oG, ownL, ownV, refsL, refsV, ownL_ints, refsL_ints, Am.look]) (by simp [ownV, ownL, refsV, refsL])
  | some m => exact static_R (by simp) (by simp [oG, ownL, ownV, refsL, refsV, ownL_ints, refsL_ints, Am.look, nbase, pbase]) (by simp [ownV, ownL, refsV, refsL])
/-- The state of the search's loop. -/
def stG (F l bh : List Int) (x : Nat) : Option (List Int) → AS
  | none => st [(0, ints F), (1, .sl (pbase + 1) 1 0 l.length), (2, ints bh), (3, .i 1), (4, .pt pbase 0), (70, .i F.length), (71, .i x)] [(pbase, (true, [.v (.slice none 0 0)])), (pbase + 1, (true, l.map AV.i))]
  | some m => st [(0, ints F), (1, .sl (pbase + 1) 1 0 l.length), (2, ints bh), (3, .i 1), (4, .pt pbase 0), (70, .i F.length), (71, .i x)] [(pbase, (false, [.sl 1000 1 0 1])), (pbase + 1, (true, l.map AV.i)), (1000, (false, [.sl 1001 1 0 m.length])), (1001, (true, m.map AV.i))]
theorem gA_own (F l bh : List Int) : ownL true (gArgs F l bh) = true := by simp [ownL, ownV, plainV]
theorem gA_refsE (F l bh : List Int) : refsL (fun r => (Am.look (hE l) r).isSome) (gArgs F l bh) = true := by simp [refsL, refsV, Am.look]
theorem gA_refsF (F l bh m : List Int) : refsL (fun r => (Am.look (hF l m) r).isSome) (gArgs F l bh) = true := by simp [refsL, refsV, Am.look]
theorem hE_own (l : List Int) : ∀ p ∈ hE l, ownL true p.2.2 = true ∧ refsL (fun r => (Am.look (hE l) r).isSome) p.2.2 = true := by simp [ownL, ownV, ownL_ints, refsL, refsV, refsL_ints]
theorem hF_own (l m : List Int) : ∀ p ∈ hF l m, ownL true p.2.2 = true ∧ refsL (fun r => (Am.look (hF l m) r).isSome) p.2.2 = true := by simp [ownL, ownV, ownL_ints, refsL, refsV, refsL_ints, Am.look]
theorem hE_ownO (l : List Int) : ∀ p ∈ hE l, ownL false p.2.2 = true := by simp [ownL, ownV, ownL_ints]
theorem hF_ownO (l m : List Int) : ∀ p ∈ hF l m, ownL false p.2.2 = true := by simp [ownL, ownV, ownL_ints]
theorem oL_ownO (l : List Int) : ∀ p ∈ oL l, ownL false p.2.2 = true := by simp [ownL, ownV, ownL_ints]
theorem oI_ownO (l m : List Int) : ∀ p ∈ oI l m, ownL false p.2.2 = true := by simp [ownL, ownV, ownL_ints]
theorem giLook_in (F : List Int) (h : IsFam F) (k : Nat) (bh : List Int) (hbh : bh = [] ∨ bh.length = F.length)
    (ihN : ∀ l, l.length + k = F.length → fstB (fitsG F) F.length k l bh = none → SpH Try.prog 41 (gArgs F l bh) (Am.look (hE l)) (.tup []) (Am.look (hE l)))
    (ihL : ∀ l m, k = 0 → l.length + k = F.length → fstB (fitsG F) F.length k l bh = some m → SpH Try.prog 41 (gArgs F l bh) (Am.look (hE l)) (.tup []) (Am.look (oL l)))
    (ihI : ∀ l m, k ≠ 0 → l.length + k = F.length → fstB (fitsG F) F.length k l bh = some m → SpH Try.prog 41 (gArgs F l bh) (Am.look (hE l)) (.tup []) (Am.look (oI l m)))
    (l : List Int) (hl : l.length + (k + 1) = F.length) :
    SpH Try.prog 41 (gArgs F l bh) (Am.look (hE l)) (.tup []) (Am.look (oG l (fstB (fitsG F) F.length (k + 1) l bh))) := by
  have h9 := h.2.1
  have hst := oG_static l (fstB (fitsG F) F.length (k + 1) l bh)
  have hall := partB_all (fitsG F) F.length k l bh
  have hpr : ∀ i, i < l.length → i < bh.length → l.take i = bh.take i → l.getD i 0 < bh.getD i 0 → fstB (fitsG F) F.length (k + 1) l bh = none := by
    intro i h1 h2 h3 h4
    unfold fstB
    rw [if_neg (by rintro rfl; simp at h2)]
    exact find_prune _ _ h1 h2 h3 h4
  generalize fstB (fitsG F) F.length (k + 1) l bh = T at *
  refine specH_of Try.func41 rfl cc41 rfl (by first | exact static_mat1 _ | exact static_mat2 _ _ | assumption) ?_
  unfold ac41
  repeat (first | (refine step_ops ?_; (first | (refine m_mov (by conv => lhs; whnf) ?_) | (refine m_eql rfl rfl ?_) | (refine m_len_ro rfl ?_) | (refine m_len_sl rfl ?_) | (refine m_len_nil rfl ?_) | (apply m_ld_pt; (· rfl); (· rfl); (· rfl)) | (refine m_nchk rfl ?_))) | refine end_ops ?_ | refine seq_ops ?_ | (refine cond_f rfl ?_ ?_; (· first | rfl | (refine decide_eq_false ?_; omega))) | refine skip_then ?_ | refine AW_seq ?_ | refine AW_block ?_)
  refine AW_cutloop (st [(0, ints F), (1, .sl (pbase + 1) 1 0 l.length), (2, ints bh), (3, .i 1), (4, .pt pbase 0)] [(pbase, (true, [.v (.slice none 0 0)])), (pbase + 1, (true, l.map AV.i))]) ?_ ?_
  case refine_2 =>
    refine AW_loop (α := Nat) (fun i => i ≤ l.length ∧ l.take i = bh.take i ∧ i ≤ bh.length) (fun i => st [(0, ints F), (1, .sl (pbase + 1) 1 0 l.length), (2, ints bh), (3, .i 1), (4, .pt pbase 0), (10, .i i)] [(pbase, (true, [.v (.slice none 0 0)])), (pbase + 1, (true, l.map AV.i))]) (fun i => l.length - i) 0 ⟨Nat.zero_le _, rfl, Nat.zero_le _⟩ (weak_st ?_ ?_ rfl rfl) ?_
    · (repeat' (first | exact trivial | refine And.intro ?_ ?_)) <;> (first | rfl | skip)
    · (repeat' (first | exact trivial | refine And.intro ?_ ?_)) <;> (first | rfl | skip)
    rintro i ⟨hi, he, hib⟩
    by_cases hc : i < l.length
    · by_cases hcb : i < bh.length
      · by_cases hx : l.getD i 0 = bh.getD i 0
        · repeat (first | ((first | refine step_ops ?_ | refine step_tree ?_); ((try (refine g_yes rfl ?_ ?_; (· (refine decide_eq_true ?_; omega)))); (first | (refine m_mov (by conv => lhs; whnf) ?_) | (refine m_lss rfl rfl ?_) | (refine m_neq rfl rfl ?_) | (refine m_add rfl rfl ?_ ?_ ?_; (· omega); (· omega)) | (refine m_len_ro rfl ?_) | (refine m_len_sl rfl ?_) | (refine m_idx1_ro rfl rfl ?_ ?_; (· omega)) | (refine m_idx1_sl rfl rfl ?_ ?_; (· omega)) | (refine m_ld_rpi rfl ?_ ?_; (· omega)) | (refine m_ld_pti rfl (by rfl) ?_ ?_; (· first | omega | (simp; omega))) | (refine m_pick_t rfl ?_ (by conv => lhs; whnf) ?_; (· (refine decide_eq_true ?_; omega)))))) | refine end_ops ?_ | refine seq_ops ?_ | refine AW_ops ?_ | refine end_tree ?_ | refine seq_tree ?_ | (refine cond_t rfl ?_ ?_; (· (refine decide_eq_true ?_; omega))) | (refine cond_f rfl ?_ ?_; (· (refine decide_eq_false ?_; omega))) | refine skip_then ?_ | refine AW_seq ?_ | refine norm_then ?_ | refine AW_block ?_ | refine norm_block ?_ | refine AW_skip ?_)
          refine next_round (i + 1) ⟨hc, by rw [take_snoc l i 0 hc, take_snoc bh i 0 hcb, he, hx], hcb⟩ (weak_st ?_ ?_ rfl rfl) ?_
          · (repeat' (first | exact trivial | refine And.intro ?_ ?_)) <;> (first | rfl | skip)
          · (repeat' (first | exact trivial | refine And.intro ?_ ?_)) <;> (first | rfl | skip)
          · omega
        · by_cases hlt : l.getD i 0 < bh.getD i 0
          · have hT := hpr i hc hcb he hlt
            subst hT
            repeat (first | ((first | refine step_ops ?_ | refine step_tree ?_); ((try (refine g_yes rfl ?_ ?_; (· (refine decide_eq_true ?_; omega)))); (first | (refine m_mov (by conv => lhs; whnf) ?_) | (refine m_lss rfl rfl ?_) | (refine m_neq rfl rfl ?_) | (refine m_len_ro rfl ?_) | (refine m_len_sl rfl ?_) | (refine m_idx1_ro rfl rfl ?_ ?_; (· omega)) | (refine m_idx1_sl rfl rfl ?_ ?_; (· omega)) | (refine m_ld_rpi rfl ?_ ?_; (· omega)) | (refine m_ld_pti rfl (by rfl) ?_ ?_; (· first | omega | (simp; omega))) | (refine m_pick_t rfl ?_ (by conv => lhs; whnf) ?_; (· (refine decide_eq_true ?_; omega)))))) | refine end_ops ?_ | refine seq_ops ?_ | refine end_tree ?_ | refine seq_tree ?_ | (refine cond_t rfl ?_ ?_; (· first | (refine decide_eq_true ?_; assumption) | (refine decide_eq_true ?_; omega))) | refine skip_then ?_ | refine AW_seq ?_ | refine AW_ret ?_ | refine ret_then ?_ | refine AW_block ?_ | refine ret_block ?_ | refine ret_round ?_)
            refine ret_R (ho := hE l) id (by rfl) ?_ (by simp) (by simp) (by simp)
            (repeat' (first | exact trivial | refine And.intro ?_ ?_ | (refine ⟨_, rfl, .inl ?_⟩; first | rfl | exact congrArg (Prod.mk true) (renL_ints _ _).symm | exact congrArg (Prod.mk true) (txs_ren _ _).symm)))
          · repeat (first | ((first | refine step_ops ?_ | refine step_tree ?_); ((try (refine g_yes rfl ?_ ?_; (· (refine decide_eq_true ?_; omega)))); (first | (refine m_mov (by conv => lhs; whnf) ?_) | (refine m_lss rfl rfl ?_) | (refine m_neq rfl rfl ?_) | (refine m_len_ro rfl ?_) | (refine m_len_sl rfl ?_) | (refine m_idx1_ro rfl rfl ?_ ?_; (· omega)) | (refine m_idx1_sl rfl rfl ?_ ?_; (· omega)) | (refine m_ld_rpi rfl ?_ ?_; (· omega)) | (refine m_ld_pti rfl (by rfl) ?_ ?_; (· first | omega | (simp; omega))) | (refine m_pick_t rfl ?_ (by conv => lhs; whnf) ?_; (· (refine decide_eq_true ?_; omega)))))) | refine end_ops ?_ | refine seq_ops ?_ | refine end_tree ?_ | refine seq_tree ?_ | (refine cond_t rfl ?_ ?_; (· first | (refine decide_eq_true ?_; assumption) | (refine decide_eq_true ?_; omega))) | (refine cond_f rfl ?_ ?_; (· (refine decide_eq_false ?_; assumption))) | refine skip_then ?_ | refine AW_seq ?_ | refine exit_then ?_ | refine AW_block ?_ | refine exit_round ?_ | refine AW_exit ?_ | refine exit_block ?_ | (refine exit_other ?_ ?_; (· decide)))
            refine weak_st ?_ ?_ rfl rfl
            · (repeat' (first | exact trivial | refine And.intro ?_ ?_)) <;> (first | rfl | skip)
            · (repeat' (first | exact trivial | refine And.intro ?_ ?_)) <;> (first | rfl | skip)
      · repeat (first | (refine step_ops ?_; ((try (refine g_yes rfl ?_ ?_; (· (refine decide_eq_true ?_; omega)))); (first | (refine m_mov (by conv => lhs; whnf) ?_) | (refine m_lss rfl rfl ?_) | (refine m_len_ro rfl ?_) | (refine m_len_sl rfl ?_) | (refine m_pick_t rfl ?_ (by conv => lhs; whnf) ?_; (· (refine decide_eq_true ?_; omega)))))) | refine end_ops ?_ | refine seq_ops ?_ | (refine cond_f rfl ?_ ?_; (· (refine decide_eq_false ?_; omega))) | refine AW_seq ?_ | refine exit_then ?_ | refine exit_round ?_ | refine AW_exit ?_ | refine exit_block ?_)
        refine weak_st ?_ ?_ rfl rfl
        · (repeat' (first | exact trivial | refine And.intro ?_ ?_)) <;> (first | rfl | skip)
        · (repeat' (first | exact trivial | refine And.intro ?_ ?_)) <;> (first | rfl | skip)
    · repeat (first | (refine step_ops ?_; (first | (first | (refine m_mov (by conv => lhs; whnf) ?_) | (refine m_lss rfl rfl ?_) | (refine m_len_sl rfl ?_) | (refine m_pick_f rfl ?_ (by conv => lhs; whnf) ?_; (· (refine decide_eq_false ?_; omega)))) | (refine g_noT rfl ?_ ?_; (· (refine decide_eq_false ?_; omega))))) | refine end_ops ?_ | refine seq_ops ?_ | (refine cond_f rfl ?_ ?_; (· rfl)) | refine AW_seq ?_ | refine exit_then ?_ | refine exit_round ?_ | refine AW_exit ?_ | refine exit_block ?_)
      refine weak_st ?_ ?_ rfl rfl
      · (repeat' (first | exact trivial | refine And.intro ?_ ?_)) <;> (first | rfl | skip)
      · (repeat' (first | exact trivial | refine And.intro ?_ ?_)) <;> (first | rfl | skip)
  repeat (first | (refine step_ops ?_; (first | (refine m_mov (by conv => lhs; whnf) ?_) | (refine m_len_ro rfl ?_))) | refine end_ops ?_ | refine seq_ops ?_ | refine AW_block ?_)
  refine AW_loop (α := Nat) (fun x => x ≤ F.length) (fun x => stG F l bh x (partB (fitsG F) F.length k l bh x)) (fun x => F.length - x) 0 (Nat.zero_le _) ?_ ?_
  · rw [partB_zero]
    refine weak_st ?_ ?_ rfl rfl
    · (repeat' (first | exact trivial | refine And.intro ?_ ?_)) <;> (first | rfl | skip)
    · (repeat' (first | exact trivial | refine And.intro ?_ ?_)) <;> (first | rfl | skip)
  intro x hx
  have hps := partB_succ (fitsG F) F.length k l bh x
  by_cases hc : x < F.length
  · cases hp : partB (fitsG F) F.length k l bh x with
    | none =>
      rw [hp, Option.none_or] at hps
      simp only [stG]
      by_cases hfam : F.getD x 0 = F.getD l.length 0
      · have hfit : fitsG F l x = false := by unfold fitsG; rw [hfam]; simp
        rw [hfit, if_neg (by simp)] at hps
        repeat (first | ((first | refine step_ops ?_ | refine step_tree ?_); (first | (first | (refine m_mov (by conv => lhs; whnf) ?_) | (refine m_lss rfl rfl ?_) | (refine m_neq rfl rfl ?_) | (refine m_add rfl rfl ?_ ?_ ?_; (· omega); (· omega)) | (refine m_len_sl rfl ?_) | (refine m_idx1_ro rfl rfl ?_ ?_; (· omega)) | (refine m_ld_rpi rfl ?_ ?_; (· omega)) | (refine m_pick_f rfl ?_ (by conv => lhs; whnf) ?_; (· (refine decide_eq_false ?_; omega)))) | (refine g_noT rfl ?_ ?_; (· (refine decide_eq_false ?_; omega))))) | refine end_ops ?_ | refine seq_ops ?_ | refine AW_ops ?_ | refine end_tree ?_ | refine seq_tree ?_ | (refine cond_t rfl ?_ ?_; (· (refine decide_eq_true ?_; omega))) | (refine cond_f rfl ?_ ?_; (· rfl)) | refine skip_then ?_ | refine AW_seq ?_ | refine norm_then ?_ | refine AW_block ?_ | refine norm_block ?_ | refine AW_skip ?_)
        refine next_round (x + 1) hc ?_ (by omega)
        rw [hps]
        refine weak_st ?_ ?_ rfl rfl
        · (repeat' (first | exact trivial | refine And.intro ?_ ?_)) <;> (first | rfl | skip)
        · (repeat' (first | exact trivial | refine And.intro ?_ ?_)) <;> (first | rfl | skip)
      by_cases hm : (x : Int) ∈ l
      · have hfit : fitsG F l x = false := by unfold fitsG; simp [hm]
        rw [hfit, if_neg (by simp)] at hps
        repeat (first | ((first | refine step_ops ?_ | refine step_tree ?_); ((try (refine g_yes rfl ?_ ?_; (· (refine decide_eq_true ?_; assumption)))); (first | (refine m_mov (by conv => lhs; whnf) ?_) | (refine m_lss rfl rfl ?_) | (refine m_neq rfl rfl ?_) | (refine m_len_sl rfl ?_) | (refine m_idx1_ro rfl rfl ?_ ?_; (· omega)) | (refine m_ld_rpi rfl ?_ ?_; (· omega))))) | refine end_ops ?_ | refine seq_ops ?_ | refine seq_tree ?_ | (refine cond_t rfl ?_ ?_; (· (refine decide_eq_true ?_; omega))) | refine skip_then ?_ | refine AW_seq ?_ | refine AW_block ?_)
        refine step_tree ?_; (refine g_yes rfl ?_ ?_; (· first | ((refine decide_eq_true ?_; assumption)) | (fail)); (apply m_call (l1Has_spec l x (by omega)))); (· repeat (first | exact lends_nil | (refine lends_cons ?_ ?_; (· (first | exact lend_v | (refine lend_sli (by rfl) ?_; first | rfl | omega | (simp; done)))))))
        repeat (first | ((first | refine step_ops ?_ | refine step_tree ?_); ((try (refine g_yes rfl ?_ ?_; (· (refine decide_eq_true ?_; assumption)))); (first | (refine m_mov (by conv => lhs; whnf) ?_) | (refine m_add rfl rfl ?_ ?_ ?_; (· omega); (· omega)) | (refine m_not rfl ?_) | (refine m_pick_t rfl ?_ (by conv => lhs; whnf) ?_; (· (refine decide_eq_true ?_; assumption)))))) | refine end_ops ?_ | refine AW_ops ?_ | refine end_tree ?_ | (refine cond_f rfl ?_ ?_; (· (refine nf ?_; assumption))) | refine norm_then ?_ | refine norm_block ?_ | refine AW_skip ?_)
        refine next_round (x + 1) hc ?_ (by omega)
        rw [hps]
        refine weak_st ?_ ?_ rfl rfl
        · (repeat' (first | exact trivial | refine And.intro ?_ ?_)) <;> (first | rfl | skip)
        · (repeat' (first | exact trivial | refine And.intro ?_ ?_)) <;> (first | rfl | skip)
      have hfit : fitsG F l x = true := by
        unfold fitsG
        rw [decide_eq_true (show F.getD l.length 0 ≠ F.getD x 0 from fun e => hfam e.symm), decide_eq_false hm]
        rfl
      rw [hfit, if_pos rfl] at hps
      repeat (first | ((first | refine step_ops ?_ | refine step_tree ?_); ((try (refine g_yes rfl ?_ ?_; (· (refine decide_eq_true ?_; assumption)))); (first | (refine m_mov (by conv => lhs; whnf) ?_) | (refine m_lss rfl rfl ?_) | (refine m_neq rfl rfl ?_) | (refine m_len_sl rfl ?_) | (refine m_idx1_ro rfl rfl ?_ ?_; (· omega)) | (refine m_ld_rpi rfl ?_ ?_; (· omega))))) | refine end_ops ?_ | refine seq_ops ?_ | refine seq_tree ?_ | (refine cond_t rfl ?_ ?_; (· (refine decide_eq_true ?_; omega))) | refine skip_then ?_ | refine AW_seq ?_ | refine AW_block ?_)
      refine step_tree ?_; (refine g_yes rfl ?_ ?_; (· first | ((refine decide_eq_true ?_; assumption)) | (fail)); (apply m_call (l1Has_spec l x (by omega)))); (· repeat (first | exact lends_nil | (refine lends_cons ?_ ?_; (· (first | exact lend_v | (refine lend_sli (by rfl) ?_; first | rfl | omega | (simp; done)))))))
      repeat (first | ((first | refine step_ops ?_ | refine step_tree ?_); ((try (refine g_yes rfl ?_ ?_; (· (refine decide_eq_true ?_; assumption)))); (first | (refine m_mov (by conv => lhs; whnf) ?_) | (refine m_not rfl ?_) | (refine m_pick_t rfl ?_ (by conv => lhs; whnf) ?_; (· (refine decide_eq_true ?_; assumption)))))) | refine AW_ops ?_ | refine end_tree ?_ | (refine cond_t rfl ?_ ?_; (· (refine nt ?_; assumption))))
      refine step_ops ?_; (apply m_callo (l1Own_spec l (by omega))); (· repeat (first | exact lends_nil | (refine lends_cons ?_ ?_; (· (refine lend_sli (by rfl) ?_; first | rfl | omega | (simp; done)))))); (· first | exact allv_ints _ | rfl | (simp; done))
      repeat (refine step_ops ?_; (first | (refine m_mov (by conv => lhs; whnf) ?_) | (refine m_bsl1 rfl rfl ?_) | (refine m_app1i rfl (by decide) (by rfl) (by first | rfl | omega | (simp; done)) rfl rfl ?_ (by decide) ?_; (· first | omega | (simp; omega)))))
      cases hq : fstB (fitsG F) F.length k (l ++ [(x : Int)]) bh with
      | none =>
        refine step_ops ?_
        refine m_callR (fun r => if r = pbase + 1 then 95 else r) (ihN (l ++ [(x : Int)]) (by simp; omega) hq) (by rfl) ?_ ?_ ?_ ?_ ?_ ?_ ?_ ?_ ?_ ?_
        · exact gA_own _ _ _
        · exact gA_refsE _ _ _
        · ((repeat' (first | exact trivial | refine And.intro ?_ ?_)) <;> (first | rfl | exact congrArg (fun c => some (true, c)) (renL_ints _ _).symm | exact congrArg (fun c => some (true, c)) (txs_ren _ _).symm | skip))
        · simp [pbase]
        · simp
        · simp
        · exact hE_own _
        · exact hE_ownO _
        · rfl
        repeat (first | (refine step_ops ?_; (first | (refine m_mov (by conv => lhs; whnf) ?_) | (refine m_add rfl rfl ?_ ?_ ?_; (· omega); (· omega)))) | refine end_ops ?_ | refine AW_ops ?_ | refine norm_then ?_ | refine norm_block ?_)
        refine next_round (x + 1) hc ?_ (by omega)
        rw [hps, hq]
        refine weak_st ?_ ?_ rfl rfl
        · (repeat' (first | exact trivial | refine And.intro ?_ ?_)) <;> (first | rfl | exact congrArg (fun c => some (true, c)) (renL_ints _ _) | exact congrArg (fun c => some (true, c)) (txs_ren _ _) | skip)
        · (repeat' (first | exact trivial | refine And.intro ?_ ?_)) <;> (first | rfl | exact congrArg (fun c => some (true, c)) (renL_ints _ _) | exact congrArg (fun c => some (true, c)) (txs_ren _ _) | skip)
      | some m =>
        by_cases hk0 : k = 0
        · refine step_ops ?_
          refine m_callR (fun r => if r = pbase + 1 then 95 else if r = nbase then 1000 else r) (ihL (l ++ [(x : Int)]) m hk0 (by simp; omega) hq) (by rfl) ?_ ?_ ?_ ?_ ?_ ?_ ?_ ?_ ?_ ?_
          · exact gA_own _ _ _
          · exact gA_refsE _ _ _
          · ((repeat' (first | exact trivial | refine And.intro ?_ ?_)) <;> (first | rfl | exact congrArg (fun c => some (true, c)) (renL_ints _ _).symm | exact congrArg (fun c => some (true, c)) (txs_ren _ _).symm | skip))
          · simp [pbase, nbase]
          · simp
          · simp [pbase, nbase]
            rfl
          · exact hE_own _
          · exact oL_ownO _
          · rfl
          have hml : m = l ++ [(x : Int)] := by
            subst hk0
            exact fstB_leaf hq
          subst hml
          repeat (first | (refine step_ops ?_; (first | (refine m_mov (by conv => lhs; whnf) ?_) | (refine m_add rfl rfl ?_ ?_ ?_; (· omega); (· omega)))) | refine end_ops ?_ | refine AW_ops ?_ | refine norm_then ?_ | refine norm_block ?_)
          refine next_round (x + 1) hc ?_ (by omega)
          rw [hps, hq]
          refine weak_stR (fun r => if r = 1001 then 95 else r) ?_ ?_ (by simp [pbase]) (by simp [pbase]) rfl rfl
          · (repeat' (first | exact trivial | refine And.intro ?_ ?_)) <;> (first | rfl | exact congrArg (fun c => some (true, c)) (renL_ints _ _) | exact congrArg (fun c => some (true, c)) (txs_ren _ _) | skip)
          · (repeat' (first | exact trivial | refine And.intro ?_ ?_)) <;> (first | rfl | exact congrArg (fun c => some (true, c)) (renL_ints _ _) | exact congrArg (fun c => some (true, c)) (txs_ren _ _) | skip)
        · refine step_ops ?_
          refine m_callR (fun r => if r = pbase + 1 then 95 else if r = nbase then 1000 else if r = nbase + 1 then 1001 else r) (ihI (l ++ [(x : Int)]) m hk0 (by simp; omega) hq) (by rfl) ?_ ?_ ?_ ?_ ?_ ?_ ?_ ?_ ?_ ?_
          · exact gA_own _ _ _
          · exact gA_refsE _ _ _
          · ((repeat' (first | exact trivial | refine And.intro ?_ ?_)) <;> (first | rfl | exact congrArg (fun c => some (true, c)) (renL_ints _ _).symm | exact congrArg (fun c => some (true, c)) (txs_ren _ _).symm | skip))
          · simp [pbase, nbase]
          · simp
          · simp [pbase, nbase]
            exact ⟨rfl, rfl⟩
          · exact hE_own _
          · exact oI_ownO _ _
          · rfl
          repeat (first | (refine step_ops ?_; (first | (refine m_mov (by conv => lhs; whnf) ?_) | (refine m_add rfl rfl ?_ ?_ ?_; (· omega); (· omega)))) | refine end_ops ?_ | refine AW_ops ?_ | refine norm_then ?_ | refine norm_block ?_)
          refine next_round (x + 1) hc ?_ (by omega)
          rw [hps, hq]
          refine weak_st ?_ ?_ rfl rfl
          · (repeat' (first | exact trivial | refine And.intro ?_ ?_)) <;> (first | rfl | exact congrArg (fun c => some (true, c)) (renL_ints _ _) | exact congrArg (fun c => some (true, c)) (txs_ren _ _) | skip)
          · (repeat' (first | exact trivial | refine And.intro ?_ ?_)) <;> (first | rfl | exact congrArg (fun c => some (true, c)) (renL_ints _ _) | exact congrArg (fun c => some (true, c)) (txs_ren _ _) | skip)
    | some m =>
      rw [hp, Option.some_or] at hps
      simp only [stG]
      by_cases hfam : F.getD x 0 = F.getD l.length 0
      · repeat (first | ((first | refine step_ops ?_ | refine step_tree ?_); (first | (first | (refine m_mov (by conv => lhs; whnf) ?_) | (refine m_lss rfl rfl ?_) | (refine m_neq rfl rfl ?_) | (refine m_add rfl rfl ?_ ?_ ?_; (· omega); (· omega)) | (refine m_len_sl rfl ?_) | (refine m_idx1_ro rfl rfl ?_ ?_; (· omega)) | (refine m_ld_rpi rfl ?_ ?_; (· omega)) | (refine m_pick_f rfl ?_ (by conv => lhs; whnf) ?_; (· (refine decide_eq_false ?_; omega)))) | (refine g_noT rfl ?_ ?_; (· (refine decide_eq_false ?_; omega))))) | refine end_ops ?_ | refine seq_ops ?_ | refine AW_ops ?_ | refine end_tree ?_ | refine seq_tree ?_ | (refine cond_t rfl ?_ ?_; (· (refine decide_eq_true ?_; omega))) | (refine cond_f rfl ?_ ?_; (· rfl)) | refine skip_then ?_ | refine AW_seq ?_ | refine norm_then ?_ | refine AW_block ?_ | refine norm_block ?_ | refine AW_skip ?_)
        refine next_round (x + 1) hc ?_ (by omega)
        rw [hps]
        refine weak_st ?_ ?_ rfl rfl
        · (repeat' (first | exact trivial | refine And.intro ?_ ?_)) <;> (first | rfl | exact congrArg (fun c => some (true, c)) (renL_ints _ _) | exact congrArg (fun c => some (true, c)) (txs_ren _ _) | skip)
        · (repeat' (first | exact trivial | refine And.intro ?_ ?_)) <;> (first | rfl | exact congrArg (fun c => some (true, c)) (renL_ints _ _) | exact congrArg (fun c => some (true, c)) (txs_ren _ _) | skip)
      by_cases hm : (x : Int) ∈ l
      · repeat (first | ((first | refine step_ops ?_ | refine step_tree ?_); ((try (refine g_yes rfl ?_ ?_; (· (refine decide_eq_true ?_; assumption)))); (first | (refine m_mov (by conv => lhs; whnf) ?_) | (refine m_lss rfl rfl ?_) | (refine m_neq rfl rfl ?_) | (refine m_len_sl rfl ?_) | (refine m_idx1_ro rfl rfl ?_ ?_; (· omega)) | (refine m_ld_rpi rfl ?_ ?_; (· omega))))) | refine end_ops ?_ | refine seq_ops ?_ | refine seq_tree ?_ | (refine cond_t rfl ?_ ?_; (· (refine decide_eq_true ?_; omega))) | refine skip_then ?_ | refine AW_seq ?_ | refine AW_block ?_)
        refine step_tree ?_; (refine g_yes rfl ?_ ?_; (· first | ((refine decide_eq_true ?_; assumption)) | (fail)); (apply m_call (l1Has_spec l x (by omega)))); (· repeat (first | exact lends_nil | (refine lends_cons ?_ ?_; (· (first | exact lend_v | (refine lend_sli (by rfl) ?_; first | rfl | omega | (simp; done)))))))
        repeat (first | ((first | refine step_ops ?_ | refine step_tree ?_); ((try (refine g_yes rfl ?_ ?_; (· (refine decide_eq_true ?_; assumption)))); (first | (refine m_mov (by conv => lhs; whnf) ?_) | (refine m_add rfl rfl ?_ ?_ ?_; (· omega); (· omega)) | (refine m_not rfl ?_) | (refine m_pick_t rfl ?_ (by conv => lhs; whnf) ?_; (· (refine decide_eq_true ?_; assumption)))))) | refine end_ops ?_ | refine AW_ops ?_ | refine end_tree ?_ | (refine cond_f rfl ?_ ?_; (· (refine nf ?_; assumption))) | refine norm_then ?_ | refine norm_block ?_ | refine AW_skip ?_)
        refine next_round (x + 1) hc ?_ (by omega)
        rw [hps]
        refine weak_st ?_ ?_ rfl rfl
        · (repeat' (first | exact trivial | refine And.intro ?_ ?_)) <;> (first | rfl | exact congrArg (fun c => some (true, c)) (renL_ints _ _) | exact congrArg (fun c => some (true, c)) (txs_ren _ _) | skip)
        · (repeat' (first | exact trivial | refine And.intro ?_ ?_)) <;> (first | rfl | exact congrArg (fun c => some (true, c)) (renL_ints _ _) | exact congrArg (fun c => some (true, c)) (txs_ren _ _) | skip)
      repeat (first | ((first | refine step_ops ?_ | refine step_tree ?_); ((try (refine g_yes rfl ?_ ?_; (· (refine decide_eq_true ?_; assumption)))); (first | (refine m_mov (by conv => lhs; whnf) ?_) | (refine m_lss rfl rfl ?_) | (refine m_neq rfl rfl ?_) | (refine m_len_sl rfl ?_) | (refine m_idx1_ro rfl rfl ?_ ?_; (· omega)) | (refine m_ld_rpi rfl ?_ ?_; (· omega))))) | refine end_ops ?_ | refine seq_ops ?_ | refine seq_tree ?_ | (refine cond_t rfl ?_ ?_; (· (refine decide_eq_true ?_; omega))) | refine skip_then ?_ | refine AW_seq ?_ | refine AW_block ?_)
      refine step_tree ?_; (refine g_yes rfl ?_ ?_; (· first | ((refine decide_eq_true ?_; assumption)) | (fail)); (apply m_call (l1Has_spec l x (by omega)))); (· repeat (first | exact lends_nil | (refine lends_cons ?_ ?_; (· (first | exact lend_v | (refine lend_sli (by rfl) ?_; first | rfl | omega | (simp; done)))))))
      repeat (first | ((first | refine step_ops ?_ | refine step_tree ?_); ((try (refine g_yes rfl ?_ ?_; (· (refine decide_eq_true ?_; assumption)))); (first | (refine m_mov (by conv => lhs; whnf) ?_) | (refine m_not rfl ?_) | (refine m_pick_t rfl ?_ (by conv => lhs; whnf) ?_; (· (refine decide_eq_true ?_; assumption)))))) | refine AW_ops ?_ | refine end_tree ?_ | (refine cond_t rfl ?_ ?_; (· (refine nt ?_; assumption))))
      refine step_ops ?_; (apply m_callo (l1Own_spec l (by omega))); (· repeat (first | exact lends_nil | (refine lends_cons ?_ ?_; (· (refine lend_sli (by rfl) ?_; first | rfl | omega | (simp; done)))))); (· first | exact allv_ints _ | rfl | (simp; done))
      repeat (refine step_ops ?_; (first | (refine m_mov (by conv => lhs; whnf) ?_) | (refine m_bsl1 rfl rfl ?_) | (refine m_app1i rfl (by decide) (by rfl) (by first | rfl | omega | (simp; done)) rfl rfl ?_ (by decide) ?_; (· first | omega | (simp; omega)))))
      refine step_ops ?_
      refine m_callR (fun r => if r = pbase + 1 then 95 else if r = pbase + 2 then 1000 else if r = pbase + 3 then 1001 else r) (giLook_full F (l ++ [(x : Int)]) bh m) (by rfl) ?_ ?_ ?_ ?_ ?_ ?_ ?_ ?_ ?_ ?_
      · exact gA_own _ _ _
      · exact gA_refsF _ _ _ _
      · ((repeat' (first | exact trivial | refine And.intro ?_ ?_)) <;> (first | rfl | exact congrArg (fun c => some (true, c)) (renL_ints _ _).symm | exact congrArg (fun c => some (true, c)) (txs_ren _ _).symm | skip))
      · simp [pbase]
      · simp
      · simp
      · exact hF_own _ _
      · exact hF_ownO _ _
      · rfl
      repeat (first | (refine step_ops ?_; (first | (refine m_mov (by conv => lhs; whnf) ?_) | (refine m_add rfl rfl ?_ ?_ ?_; (· omega); (· omega)))) | refine end_ops ?_ | refine AW_ops ?_ | refine norm_then ?_ | refine norm_block ?_)
      refine next_round (x + 1) hc ?_ (by omega)
      rw [hps]
      refine weak_st ?_ ?_ rfl rfl
      · (repeat' (first | exact trivial | refine And.intro ?_ ?_)) <;> (first | rfl | exact congrArg (fun c => some (true, c)) (renL_ints _ _) | exact congrArg (fun c => some (true, c)) (txs_ren _ _) | skip)
      · (repeat' (first | exact trivial | refine And.intro ?_ ?_)) <;> (first | rfl | exact congrArg (fun c => some (true, c)) (renL_ints _ _) | exact congrArg (fun c => some (true, c)) (txs_ren _ _) | skip)
  · obtain rfl : x = F.length := by omega
    rw [hall]
    cases T with
    | none =>
      simp only [stG]
      repeat (first | (refine step_ops ?_; (refine m_lss rfl rfl ?_)) | refine end_ops ?_ | refine seq_ops ?_ | (refine cond_f rfl ?_ ?_; (· (refine decide_eq_false ?_; omega))) | refine AW_seq ?_ | refine exit_then ?_ | refine exit_round ?_ | refine AW_exit ?_ | refine exit_block ?_)
      refine norm_R (ho := hE l) id (by rfl) ?_ (by simp) (by simp) (by simp)
      (repeat' (first | exact trivial | refine And.intro ?_ ?_ | (refine ⟨_, rfl, .inl ?_⟩; first | rfl | exact congrArg (Prod.mk true) (renL_ints _ _).symm | exact congrArg (Prod.mk true) (txs_ren _ _).symm)))
    | some m =>
      simp only [stG]
      repeat (first | (refine step_ops ?_; (refine m_lss rfl rfl ?_)) | refine end_ops ?_ | refine seq_ops ?_ | (refine cond_f rfl ?_ ?_; (· (refine decide_eq_false ?_; omega))) | refine AW_seq ?_ | refine exit_then ?_ | refine exit_round ?_ | refine AW_exit ?_ | refine exit_block ?_)
      refine norm_R (ho := oI l m) (fun r => if r = nbase then 1000 else if r = nbase + 1 then 1001 else r) (by rfl) ?_ (by simp [nbase, pbase]) (by simp [nbase, pbase]) (by simp [nbase, pbase])
      (repeat' (first | exact trivial | refine And.intro ?_ ?_ | (refine ⟨_, rfl, .inl ?_⟩; first | rfl | exact congrArg (Prod.mk true) (renL_ints _ _).symm | exact congrArg (Prod.mk true) (txs_ren _ _).symm)))
end Go.Proofs.Ytbeflnnejofleaa
namespace Go.Proofs.Ytbeflnnejofleaa
variable [Go.Am.CodeBlk]
open Go.Am
attribute [local irreducible] AW Outs Weak Lends Lend Sp aops atree aop1 Then Round InBlock Done
attribute [local irreducible] SpM DoneM SpH DoneH
abbrev hR : List (Nat × (Bool × List AV)) := [(pbase, (true, [.v (.slice none 0 0)]))]
abbrev oR (m : List Int) : List (Nat × (Bool × List AV)) := [(pbase, (false, [.sl nbase 1 0 1])), (nbase, (false, [.sl (nbase + 1) 1 0 m.length])), (nbase + 1, (true, m.map AV.i))]
def oZ : Option (List Int) → List (Nat × (Bool × List AV))
  | none => hR
  | some m => oR m
theorem oZ_static (T : Option (List Int)) : Static (Am.look hR) (.tup []) (Am.look (oZ T)) := by
  cases T with
  | none => exact static_R (by simp) (by simp [oZ, ownL, ownV, refsL, refsV]) (by simp [ownV, ownL, refsV, refsL])
  | some m => exact static_R (by simp) (by simp [oZ, ownL, ownV, refsL, refsV, ownL_ints, refsL_ints, Am.look, nbase, pbase]) (by simp [ownV, ownL, refsV, refsL])
def stR (F l bh : List Int) (x : Nat) : Option (List Int) → AS
  | none => st [(0, ints F), (1, ints l), (2, ints bh), (3, .i 1), (4, .pt pbase 0), (70, .i F.length), (71, .i x)] [(pbase, (true, [.v (.slice none 0 0)]))]
  | some m => st [(0, ints F), (1, ints l), (2, ints bh), (3, .i 1), (4, .pt pbase 0), (70, .i F.length), (71, .i x)] [(pbase, (false, [.sl 1000 1 0 1])), (1000, (false, [.sl 1001 1 0 m.length])), (1001, (true, m.map AV.i))]
theorem giLook_root (F : List Int) (h : IsFam F) (k : Nat) (bh : List Int) (hbh : bh = [] ∨ bh.length = F.length)
    (ihN : ∀ l, l.length + k = F.length → fstB (fitsG F) F.length k l bh = none → SpH Try.prog 41 (gArgs F l bh) (Am.look (hE l)) (.tup []) (Am.look (hE l)))
    (ihL : ∀ l m, k = 0 → l.length + k = F.length → fstB (fitsG F) F.length k l bh = some m → SpH Try.prog 41 (gArgs F l bh) (Am.look (hE l)) (.tup []) (Am.look (oL l)))
    (ihI : ∀ l m, k ≠ 0 → l.length + k = F.length → fstB (fitsG F) F.length k l bh = some m → SpH Try.prog 41 (gArgs F l bh) (Am.look (hE l)) (.tup []) (Am.look (oI l m)))
    (l : List Int) (hl : l.length + (k + 1) = F.length) (hl0 : l = []) (bv : AV) (hbv : bv = ints bh ∨ bv = .v (.slice none 0 0) ∧ bh = []) :
    SpH Try.prog 41 [ints F, .v (.slice none 0 0), bv, .i 1, .pt pbase 0] (Am.look hR) (.tup []) (Am.look (oZ (fstB (fitsG F) F.length (k + 1) l bh))) := by
  have h9 := h.2.1
  have hst := oZ_static (fstB (fitsG F) F.length (k + 1) l bh)
  have hall := partB_all (fitsG F) F.length k l bh
  have hpr : ∀ i, i < l.length → i < bh.length → l.take i = bh.take i → l.getD i 0 < bh.getD i 0 → fstB (fitsG F) F.length (k + 1) l bh = none := by
    intro i h1 h2 h3 h4
    unfold fstB
    rw [if_neg (by rintro rfl; simp at h2)]
    exact find_prune _ _ h1 h2 h3 h4
  generalize fstB (fitsG F) F.length (k + 1) l bh = T at *
  have hw : Weak (enterH [ints F, .v (.slice none 0 0), bv, .i 1, .pt pbase 0] (Am.look hR)) (st [(0, ints F), (1, ints l), (2, ints bh), (3, .i 1), (4, .pt pbase 0)] [(pbase, (true, [.v (.slice none 0 0)]))]) := by
    subst hl0
    rcases hbv with rfl | ⟨rfl, rfl⟩
    · refine Weak.trans (weak_nilro 1 1 rfl) (weak_st ?_ ?_ rfl rfl)
      · (repeat' (first | exact trivial | refine And.intro ?_ ?_)) <;> (first | rfl | skip)
      · (repeat' (first | exact trivial | refine And.intro ?_ ?_)) <;> (first | rfl | skip)
    · refine Weak.trans (weak_nilro 1 1 rfl) (Weak.trans (weak_nilro 2 1 rfl) (weak_st ?_ ?_ rfl rfl))
      · (repeat' (first | exact trivial | refine And.intro ?_ ?_)) <;> (first | rfl | skip)
      · (repeat' (first | exact trivial | refine And.intro ?_ ?_)) <;> (first | rfl | skip)
  clear hl0 hbv
  refine specH_of Try.func41 rfl cc41 rfl (by first | exact static_mat1 _ | exact static_mat2 _ _ | assumption) ?_
  unfold ac41
  refine AW_weak hw ?_
  repeat (first | (refine step_ops ?_; (first | (refine m_mov (by conv => lhs; whnf) ?_) | (refine m_eql rfl rfl ?_) | (refine m_len_ro rfl ?_) | (refine m_len_nil rfl ?_) | (apply m_ld_pt; (· rfl); (· rfl); (· rfl)) | (refine m_nchk rfl ?_))) | refine end_ops ?_ | refine seq_ops ?_ | (refine cond_f rfl ?_ ?_; (· first | rfl | (refine decide_eq_false ?_; omega))) | refine skip_then ?_ | refine AW_seq ?_ | refine AW_block ?_)
  refine AW_cutloop (st [(0, ints F), (1, ints l), (2, ints bh), (3, .i 1), (4, .pt pbase 0)] [(pbase, (true, [.v (.slice none 0 0)]))]) ?_ ?_
  case refine_2 =>
    refine AW_loop (α := Nat) (fun i => i ≤ l.length ∧ l.take i = bh.take i ∧ i ≤ bh.length) (fun i => st [(0, ints F), (1, ints l), (2, ints bh), (3, .i 1), (4, .pt pbase 0), (10, .i i)] [(pbase, (true, [.v (.slice none 0 0)]))]) (fun i => l.length - i) 0 ⟨Nat.zero_le _, rfl, Nat.zero_le _⟩ (weak_st ?_ ?_ rfl rfl) ?_
    · (repeat' (first | exact trivial | refine And.intro ?_ ?_)) <;> (first | rfl | skip)
    · (repeat' (first | exact trivial | refine And.intro ?_ ?_)) <;> (first | rfl | skip)
    rintro i ⟨hi, he, hib⟩
    by_cases hc : i < l.length
    · by_cases hcb : i < bh.length
      · by_cases hx : l.getD i 0 = bh.getD i 0
        · repeat (first | ((first | refine step_ops ?_ | refine step_tree ?_); ((try (refine g_yes rfl ?_ ?_; (· (refine decide_eq_true ?_; omega)))); (first | (refine m_mov (by conv => lhs; whnf) ?_) | (refine m_lss rfl rfl ?_) | (refine m_neq rfl rfl ?_) | (refine m_add rfl rfl ?_ ?_ ?_; (· omega); (· omega)) | (refine m_len_ro rfl ?_) | (refine m_idx1_ro rfl rfl ?_ ?_; (· omega)) | (refine m_ld_rpi rfl ?_ ?_; (· omega)) | (refine m_pick_t rfl ?_ (by conv => lhs; whnf) ?_; (· (refine decide_eq_true ?_; omega)))))) | refine end_ops ?_ | refine seq_ops ?_ | refine AW_ops ?_ | refine end_tree ?_ | refine seq_tree ?_ | (refine cond_t rfl ?_ ?_; (· (refine decide_eq_true ?_; omega))) | (refine cond_f rfl ?_ ?_; (· (refine decide_eq_false ?_; omega))) | refine skip_then ?_ | refine AW_seq ?_ | refine norm_then ?_ | refine AW_block ?_ | refine norm_block ?_ | refine AW_skip ?_)
          refine next_round (i + 1) ⟨hc, by rw [take_snoc l i 0 hc, take_snoc bh i 0 hcb, he, hx], hcb⟩ (weak_st ?_ ?_ rfl rfl) ?_
          · (repeat' (first | exact trivial | refine And.intro ?_ ?_)) <;> (first | rfl | skip)
          · (repeat' (first | exact trivial | refine And.intro ?_ ?_)) <;> (first | rfl | skip)
          · omega
        · by_cases hlt : l.getD i 0 < bh.getD i 0
          · have hT := hpr i hc hcb he hlt
            subst hT
            repeat (first | ((first | refine step_ops ?_ | refine step_tree ?_); ((try (refine g_yes rfl ?_ ?_; (· (refine decide_eq_true ?_; omega)))); (first | (refine m_mov (by conv => lhs; whnf) ?_) | (refine m_lss rfl rfl ?_) | (refine m_neq rfl rfl ?_) | (refine m_len_ro rfl ?_) | (refine m_idx1_ro rfl rfl ?_ ?_; (· omega)) | (refine m_ld_rpi rfl ?_ ?_; (· omega)) | (refine m_pick_t rfl ?_ (by conv => lhs; whnf) ?_; (· (refine decide_eq_true ?_; omega)))))) | refine end_ops ?_ | refine seq_ops ?_ | refine end_tree ?_ | refine seq_tree ?_ | (refine cond_t rfl ?_ ?_; (· first | (refine decide_eq_true ?_; assumption) | (refine decide_eq_true ?_; omega))) | refine skip_then ?_ | refine AW_seq ?_ | refine AW_ret ?_ | refine ret_then ?_ | refine AW_block ?_ | refine ret_block ?_ | refine ret_round ?_)
            refine ret_R (ho := hR) id (by rfl) ?_ (by simp) (by simp) (by simp)
            (repeat' (first | exact trivial | refine And.intro ?_ ?_ | (refine ⟨_, rfl, .inl ?_⟩; first | rfl | exact congrArg (Prod.mk true) (renL_ints _ _).symm | exact congrArg (Prod.mk true) (txs_ren _ _).symm)))
          · repeat (first | ((first | refine step_ops ?_ | refine step_tree ?_); ((try (refine g_yes rfl ?_ ?_; (· (refine decide_eq_true ?_; omega)))); (first | (refine m_mov (by conv => lhs; whnf) ?_) | (refine m_lss rfl rfl ?_) | (refine m_neq rfl rfl ?_) | (refine m_len_ro rfl ?_) | (refine m_idx1_ro rfl rfl ?_ ?_; (· omega)) | (refine m_ld_rpi rfl ?_ ?_; (· omega)) | (refine m_pick_t rfl ?_ (by conv => lhs; whnf) ?_; (· (refine decide_eq_true ?_; omega)))))) | refine end_ops ?_ | refine seq_ops ?_ | refine end_tree ?_ | refine seq_tree ?_ | (refine cond_t rfl ?_ ?_; (· first | (refine decide_eq_true ?_; assumption) | (refine decide_eq_true ?_; omega))) | (refine cond_f rfl ?_ ?_; (· (refine decide_eq_false ?_; assumption))) | refine skip_then ?_ | refine AW_seq ?_ | refine exit_then ?_ | refine AW_block ?_ | refine exit_round ?_ | refine AW_exit ?_ | refine exit_block ?_ | (refine exit_other ?_ ?_; (· decide)))
            refine weak_st ?_ ?_ rfl rfl
            · (repeat' (first | exact trivial | refine And.intro ?_ ?_)) <;> (first | rfl | skip)
            · (repeat' (first | exact trivial | refine And.intro ?_ ?_)) <;> (first | rfl | skip)
      · repeat (first | (refine step_ops ?_; ((try (refine g_yes rfl ?_ ?_; (· (refine decide_eq_true ?_; omega)))); (first | (refine m_mov (by conv => lhs; whnf) ?_) | (refine m_lss rfl rfl ?_) | (refine m_len_ro rfl ?_) | (refine m_pick_t rfl ?_ (by conv => lhs; whnf) ?_; (· (refine decide_eq_true ?_; omega)))))) | refine end_ops ?_ | refine seq_ops ?_ | (refine cond_f rfl ?_ ?_; (· (refine decide_eq_false ?_; omega))) | refine AW_seq ?_ | refine exit_then ?_ | refine exit_round ?_ | refine AW_exit ?_ | refine exit_block ?_)
        refine weak_st ?_ ?_ rfl rfl
        · (repeat' (first | exact trivial | refine And.intro ?_ ?_)) <;> (first | rfl | skip)
        · (repeat' (first | exact trivial | refine And.intro ?_ ?_)) <;> (first | rfl | skip)
    · repeat (first | (refine step_ops ?_; (first | (first | (refine m_mov (by conv => lhs; whnf) ?_) | (refine m_lss rfl rfl ?_) | (refine m_len_ro rfl ?_) | (refine m_pick_f rfl ?_ (by conv => lhs; whnf) ?_; (· (refine decide_eq_false ?_; omega)))) | (refine g_noT rfl ?_ ?_; (· (refine decide_eq_false ?_; omega))))) | refine end_ops ?_ | refine seq_ops ?_ | (refine cond_f rfl ?_ ?_; (· rfl)) | refine AW_seq ?_ | refine exit_then ?_ | refine exit_round ?_ | refine AW_exit ?_ | refine exit_block ?_)
      refine weak_st ?_ ?_ rfl rfl
      · (repeat' (first | exact trivial | refine And.intro ?_ ?_)) <;> (first | rfl | skip)
      · (repeat' (first | exact trivial | refine And.intro ?_ ?_)) <;> (first | rfl | skip)
  repeat (first | (refine step_ops ?_; (first | (refine m_mov (by conv => lhs; whnf) ?_) | (refine m_len_ro rfl ?_))) | refine end_ops ?_ | refine seq_ops ?_ | refine AW_block ?_)
  refine AW_loop (α := Nat) (fun x => x ≤ F.length) (fun x => stR F l bh x (partB (fitsG F) F.length k l bh x)) (fun x => F.length - x) 0 (Nat.zero_le _) ?_ ?_
  · rw [partB_zero]
    refine weak_st ?_ ?_ rfl rfl
    · (repeat' (first | exact trivial | refine And.intro ?_ ?_)) <;> (first | rfl | skip)
    · (repeat' (first | exact trivial | refine And.intro ?_ ?_)) <;> (first | rfl | skip)
  intro x hx
  have hps := partB_succ (fitsG F) F.length k l bh x
  by_cases hc : x < F.length
  · cases hp : partB (fitsG F) F.length k l bh x with
    | none =>
      rw [hp, Option.none_or] at hps
      simp only [stR]
      by_cases hfam : F.getD x 0 = F.getD l.length 0
      · have hfit : fitsG F l x = false := by unfold fitsG; rw [hfam]; simp
        rw [hfit, if_neg (by simp)] at hps
        repeat (first | ((first | refine step_ops ?_ | refine step_tree ?_); (first | (first | (refine m_mov (by conv => lhs; whnf) ?_) | (refine m_lss rfl rfl ?_) | (refine m_neq rfl rfl ?_) | (refine m_add rfl rfl ?_ ?_ ?_; (· omega); (· omega)) | (refine m_len_ro rfl ?_) | (refine m_idx1_ro rfl rfl ?_ ?_; (· omega)) | (refine m_ld_rpi rfl ?_ ?_; (· omega)) | (refine m_pick_f rfl ?_ (by conv => lhs; whnf) ?_; (· (refine decide_eq_false ?_; omega)))) | (refine g_noT rfl ?_ ?_; (· (refine decide_eq_false ?_; omega))))) | refine end_ops ?_ | refine seq_ops ?_ | refine AW_ops ?_ | refine end_tree ?_ | refine seq_tree ?_ | (refine cond_t rfl ?_ ?_; (· (refine decide_eq_true ?_; omega))) | (refine cond_f rfl ?_ ?_; (· rfl)) | refine skip_then ?_ | refine AW_seq ?_ | refine norm_then ?_ | refine AW_block ?_ | refine norm_block ?_ | refine AW_skip ?_)
        refine next_round (x + 1) hc ?_ ?_
        rotate_left
        · omega
        rw [hps]
        refine weak_st ?_ ?_ rfl rfl
        · (repeat' (first | exact trivial | refine And.intro ?_ ?_)) <;> (first | rfl | skip)
        · (repeat' (first | exact trivial | refine And.intro ?_ ?_)) <;> (first | rfl | skip)
      by_cases hm : (x : Int) ∈ l
      · have hfit : fitsG F l x = false := by unfold fitsG; simp [hm]
        rw [hfit, if_neg (by simp)] at hps
        repeat (first | ((first | refine step_ops ?_ | refine step_tree ?_); ((try (refine g_yes rfl ?_ ?_; (· (refine decide_eq_true ?_; assumption)))); (first | (refine m_mov (by conv => lhs; whnf) ?_) | (refine m_lss rfl rfl ?_) | (refine m_neq rfl rfl ?_) | (refine m_len_ro rfl ?_) | (refine m_idx1_ro rfl rfl ?_ ?_; (· omega)) | (refine m_ld_rpi rfl ?_ ?_; (· omega))))) | refine end_ops ?_ | refine seq_ops ?_ | refine seq_tree ?_ | (refine cond_t rfl ?_ ?_; (· (refine decide_eq_true ?_; omega))) | refine skip_then ?_ | refine AW_seq ?_ | refine AW_block ?_)
        refine step_tree ?_; (refine g_yes rfl ?_ ?_; (· first | ((refine decide_eq_true ?_; assumption)) | (fail)); (apply m_call (l1Has_spec l x (by omega)))); (· repeat (first | exact lends_nil | (refine lends_cons ?_ ?_; (· (first | exact lend_v | (refine lend_ints ?_; first | rfl | omega))))))
        repeat (first | ((first | refine step_ops ?_ | refine step_tree ?_); ((try (refine g_yes rfl ?_ ?_; (· (refine decide_eq_true ?_; assumption)))); (first | (refine m_mov (by conv => lhs; whnf) ?_) | (refine m_add rfl rfl ?_ ?_ ?_; (· omega); (· omega)) | (refine m_not rfl ?_) | (refine m_pick_t rfl ?_ (by conv => lhs; whnf) ?_; (· (refine decide_eq_true ?_; assumption)))))) | refine end_ops ?_ | refine AW_ops ?_ | refine end_tree ?_ | (refine cond_f rfl ?_ ?_; (· (refine nf ?_; assumption))) | refine norm_then ?_ | refine norm_block ?_ | refine AW_skip ?_)
        refine next_round (x + 1) hc ?_ ?_
        rotate_left
        · omega
        rw [hps]
        refine weak_st ?_ ?_ rfl rfl
        · (repeat' (first | exact trivial | refine And.intro ?_ ?_)) <;> (first | rfl | skip)
        · (repeat' (first | exact trivial | refine And.intro ?_ ?_)) <;> (first | rfl | skip)
      have hfit : fitsG F l x = true := by
        unfold fitsG
        rw [decide_eq_true (show F.getD l.length 0 ≠ F.getD x 0 from fun e => hfam e.symm), decide_eq_false hm]
        rfl
      rw [hfit, if_pos rfl] at hps
      repeat (first | ((first | refine step_ops ?_ | refine step_tree ?_); ((try (refine g_yes rfl ?_ ?_; (· (refine decide_eq_true ?_; assumption)))); (first | (refine m_mov (by conv => lhs; whnf) ?_) | (refine m_lss rfl rfl ?_) | (refine m_neq rfl rfl ?_) | (refine m_len_ro rfl ?_) | (refine m_idx1_ro rfl rfl ?_ ?_; (· omega)) | (refine m_ld_rpi rfl ?_ ?_; (· omega))))) | refine end_ops ?_ | refine seq_ops ?_ | refine seq_tree ?_ | (refine cond_t rfl ?_ ?_; (· (refine decide_eq_true ?_; omega))) | refine skip_then ?_ | refine AW_seq ?_ | refine AW_block ?_)
      refine step_tree ?_; (refine g_yes rfl ?_ ?_; (· first | ((refine decide_eq_true ?_; assumption)) | (fail)); (apply m_call (l1Has_spec l x (by omega)))); (· repeat (first | exact lends_nil | (refine lends_cons ?_ ?_; (· (first | exact lend_v | (refine lend_ints ?_; first | rfl | omega))))))
      repeat (first | ((first | refine step_ops ?_ | refine step_tree ?_); ((try (refine g_yes rfl ?_ ?_; (· (refine decide_eq_true ?_; assumption)))); (first | (refine m_mov (by conv => lhs; whnf) ?_) | (refine m_not rfl ?_) | (refine m_pick_t rfl ?_ (by conv => lhs; whnf) ?_; (· (refine decide_eq_true ?_; assumption)))))) | refine AW_ops ?_ | refine end_tree ?_ | (refine cond_t rfl ?_ ?_; (· (refine nt ?_; assumption))))
      refine step_ops ?_; (apply m_callo (l1Own_spec l (by omega))); (· repeat (first | exact lends_nil | (refine lends_cons ?_ ?_; (· (refine lend_ints ?_; first | rfl | omega))))); (· first | exact allv_ints _ | rfl | (simp; done))
      repeat (refine step_ops ?_; (first | (refine m_mov (by conv => lhs; whnf) ?_) | (refine m_bsl1 rfl rfl ?_) | (refine m_app1i rfl (by decide) (by rfl) (by first | rfl | omega | (simp; done)) rfl rfl ?_ (by decide) ?_; (· first | omega | (simp; omega)))))
      cases hq : fstB (fitsG F) F.length k (l ++ [(x : Int)]) bh with
      | none =>
        refine step_ops ?_
        refine m_callR (fun r => if r = pbase + 1 then 95 else r) (ihN (l ++ [(x : Int)]) (by simp; omega) hq) (by rfl) ?_ ?_ ?_ ?_ ?_ ?_ ?_ ?_ ?_ ?_
        · exact gA_own _ _ _
        · exact gA_refsE _ _ _
        · ((repeat' (first | exact trivial | refine And.intro ?_ ?_)) <;> (first | rfl | exact congrArg (fun c => some (true, c)) (renL_ints _ _).symm | exact congrArg (fun c => some (true, c)) (txs_ren _ _).symm | skip))
        · simp [pbase]
        · simp
        · simp
        · exact hE_own _
        · exact hE_ownO _
        · rfl
        repeat (first | (refine step_ops ?_; (first | (refine m_mov (by conv => lhs; whnf) ?_) | (refine m_add rfl rfl ?_ ?_ ?_; (· omega); (· omega)))) | refine end_ops ?_ | refine AW_ops ?_ | refine norm_then ?_ | refine norm_block ?_)
        refine next_round (x + 1) hc ?_ ?_
        rotate_left
        · omega
        rw [hps, hq]
        refine weak_st ?_ ?_ rfl rfl
        · (repeat' (first | exact trivial | refine And.intro ?_ ?_)) <;> (first | rfl | exact congrArg (fun c => some (true, c)) (renL_ints _ _) | exact congrArg (fun c => some (true, c)) (txs_ren _ _) | skip)
        · (repeat' (first | exact trivial | refine And.intro ?_ ?_)) <;> (first | rfl | exact congrArg (fun c => some (true, c)) (renL_ints _ _) | exact congrArg (fun c => some (true, c)) (txs_ren _ _) | skip)
      | some m =>
        by_cases hk0 : k = 0
        · refine step_ops ?_
          refine m_callR (fun r => if r = pbase + 1 then 95 else if r = nbase then 1000 else r) (ihL (l ++ [(x : Int)]) m hk0 (by simp; omega) hq) (by rfl) ?_ ?_ ?_ ?_ ?_ ?_ ?_ ?_ ?_ ?_
          · exact gA_own _ _ _
          · exact gA_refsE _ _ _
          · ((repeat' (first | exact trivial | refine And.intro ?_ ?_)) <;> (first | rfl | exact congrArg (fun c => some (true, c)) (renL_ints _ _).symm | exact congrArg (fun c => some (true, c)) (txs_ren _ _).symm | skip))
          · simp [pbase, nbase]
          · simp
          · simp [pbase, nbase]
            rfl
          · exact hE_own _
          · exact oL_ownO _
          · rfl
          have hml : m = l ++ [(x : Int)] := by
            subst hk0
            exact fstB_leaf hq
          subst hml
          repeat (first | (refine step_ops ?_; (first | (refine m_mov (by conv => lhs; whnf) ?_) | (refine m_add rfl rfl ?_ ?_ ?_; (· omega); (· omega)))) | refine end_ops ?_ | refine AW_ops ?_ | refine norm_then ?_ | refine norm_block ?_)
          refine next_round (x + 1) hc ?_ ?_
          rotate_left
          · omega
          rw [hps, hq]
          refine weak_stR (fun r => if r = 1001 then 95 else r) ?_ ?_ (by simp [pbase]) (by simp [pbase]) rfl rfl
          · (repeat' (first | exact trivial | refine And.intro ?_ ?_)) <;> (first | rfl | exact congrArg (fun c => some (true, c)) (renL_ints _ _) | exact congrArg (fun c => some (true, c)) (txs_ren _ _) | skip)
          · (repeat' (first | exact trivial | refine And.intro ?_ ?_)) <;> (first | rfl | exact congrArg (fun c => some (true, c)) (renL_ints _ _) | exact congrArg (fun c => some (true, c)) (txs_ren _ _) | skip)
        · refine step_ops ?_
          refine m_callR (fun r => if r = pbase + 1 then 95 else if r = nbase then 1000 else if r = nbase + 1 then 1001 else r) (ihI (l ++ [(x : Int)]) m hk0 (by simp; omega) hq) (by rfl) ?_ ?_ ?_ ?_ ?_ ?_ ?_ ?_ ?_ ?_
          · exact gA_own _ _ _
          · exact gA_refsE _ _ _
          · ((repeat' (first | exact trivial | refine And.intro ?_ ?_)) <;> (first | rfl | exact congrArg (fun c => some (true, c)) (renL_ints _ _).symm | exact congrArg (fun c => some (true, c)) (txs_ren _ _).symm | skip))
          · simp [pbase, nbase]
          · simp
          · simp [pbase, nbase]
            exact ⟨rfl, rfl⟩
          · exact hE_own _
          · exact oI_ownO _ _
          · rfl
          repeat (first | (refine step_ops ?_; (first | (refine m_mov (by conv => lhs; whnf) ?_) | (refine m_add rfl rfl ?_ ?_ ?_; (· omega); (· omega)))) | refine end_ops ?_ | refine AW_ops ?_ | refine norm_then ?_ | refine norm_block ?_)
          refine next_round (x + 1) hc ?_ ?_
          rotate_left
          · omega
          rw [hps, hq]
          refine weak_st ?_ ?_ rfl rfl
          · (repeat' (first | exact trivial | refine And.intro ?_ ?_)) <;> (first | rfl | exact congrArg (fun c => some (true, c)) (renL_ints _ _) | exact congrArg (fun c => some (true, c)) (txs_ren _ _) | skip)
          · (repeat' (first | exact trivial | refine And.intro ?_ ?_)) <;> (first | rfl | exact congrArg (fun c => some (true, c)) (renL_ints _ _) | exact congrArg (fun c => some (true, c)) (txs_ren _ _) | skip)
    | some m =>
      rw [hp, Option.some_or] at hps
      simp only [stR]
      by_cases hfam : F.getD x 0 = F.getD l.length 0
      · repeat (first | ((first | refine step_ops ?_ | refine step_tree ?_); (first | (first | (refine m_mov (by conv => lhs; whnf) ?_) | (refine m_lss rfl rfl ?_) | (refine m_neq rfl rfl ?_) | (refine m_add rfl rfl ?_ ?_ ?_; (· omega); (· omega)) | (refine m_len_ro rfl ?_) | (refine m_idx1_ro rfl rfl ?_ ?_; (· omega)) | (refine m_ld_rpi rfl ?_ ?_; (· omega)) | (refine m_pick_f rfl ?_ (by conv => lhs; whnf) ?_; (· (refine decide_eq_false ?_; omega)))) | (refine g_noT rfl ?_ ?_; (· (refine decide_eq_false ?_; omega))))) | refine end_ops ?_ | refine seq_ops ?_ | refine AW_ops ?_ | refine end_tree ?_ | refine seq_tree ?_ | (refine cond_t rfl ?_ ?_; (· (refine decide_eq_true ?_; omega))) | (refine cond_f rfl ?_ ?_; (· rfl)) | refine skip_then ?_ | refine AW_seq ?_ | refine norm_then ?_ | refine AW_block ?_ | refine norm_block ?_ | refine AW_skip ?_)
        refine next_round (x + 1) hc ?_ ?_
        rotate_left
        · omega
        rw [hps]
        refine weak_st ?_ ?_ rfl rfl
        · (repeat' (first | exact trivial | refine And.intro ?_ ?_)) <;> (first | rfl | exact congrArg (fun c => some (true, c)) (renL_ints _ _) | exact congrArg (fun c => some (true, c)) (txs_ren _ _) | skip)
        · (repeat' (first | exact trivial | refine And.intro ?_ ?_)) <;> (first | rfl | exact congrArg (fun c => some (true, c)) (renL_ints _ _) | exact congrArg (fun c => some (true, c)) (txs_ren _ _) | skip)
      by_cases hm : (x : Int) ∈ l
      · repeat (first | ((first | refine step_ops ?_ | refine step_tree ?_); ((try (refine g_yes rfl ?_ ?_; (· (refine decide_eq_true ?_; assumption)))); (first | (refine m_mov (by conv => lhs; whnf) ?_) | (refine m_lss rfl rfl ?_) | (refine m_neq rfl rfl ?_) | (refine m_len_ro rfl ?_) | (refine m_idx1_ro rfl rfl ?_ ?_; (· omega)) | (refine m_ld_rpi rfl ?_ ?_; (· omega))))) | refine end_ops ?_ | refine seq_ops ?_ | refine seq_tree ?_ | (refine cond_t rfl ?_ ?_; (· (refine decide_eq_true ?_; omega))) | refine skip_then ?_ | refine AW_seq ?_ | refine AW_block ?_)
        refine step_tree ?_; (refine g_yes rfl ?_ ?_; (· first | ((refine decide_eq_true ?_; assumption)) | (fail)); (apply m_call (l1Has_spec l x (by omega)))); (· repeat (first | exact lends_nil | (refine lends_cons ?_ ?_; (· (first | exact lend_v | (refine lend_ints ?_; first | rfl | omega))))))
        repeat (first | ((first | refine step_ops ?_ | refine step_tree ?_); ((try (refine g_yes rfl ?_ ?_; (· (refine decide_eq_true ?_; assumption)))); (first | (refine m_mov (by conv => lhs; whnf) ?_) | (refine m_add rfl rfl ?_ ?_ ?_; (· omega); (· omega)) | (refine m_not rfl ?_) | (refine m_pick_t rfl ?_ (by conv => lhs; whnf) ?_; (· (refine decide_eq_true ?_; assumption)))))) | refine end_ops ?_ | refine AW_ops ?_ | refine end_tree ?_ | (refine cond_f rfl ?_ ?_; (· (refine nf ?_; assumption))) | refine norm_then ?_ | refine norm_block ?_ | refine AW_skip ?_)
        refine next_round (x + 1) hc ?_ ?_
        rotate_left
        · omega
        rw [hps]
        refine weak_st ?_ ?_ rfl rfl
        · (repeat' (first | exact trivial | refine And.intro ?_ ?_)) <;> (first | rfl | exact congrArg (fun c => some (true, c)) (renL_ints _ _) | exact congrArg (fun c => some (true, c)) (txs_ren _ _) | skip)
        · (repeat' (first | exact trivial | refine And.intro ?_ ?_)) <;> (first | rfl | exact congrArg (fun c => some (true, c)) (renL_ints _ _) | exact congrArg (fun c => some (true, c)) (txs_ren _ _) | skip)
      repeat (first | ((first | refine step_ops ?_ | refine step_tree ?_); ((try (refine g_yes rfl ?_ ?_; (· (refine decide_eq_true ?_; assumption)))); (first | (refine m_mov (by conv => lhs; whnf) ?_) | (refine m_lss rfl rfl ?_) | (refine m_neq rfl rfl ?_) | (refine m_len_ro rfl ?_) | (refine m_idx1_ro rfl rfl ?_ ?_; (· omega)) | (refine m_ld_rpi rfl ?_ ?_; (· omega))))) | refine end_ops ?_ | refine seq_ops ?_ | refine seq_tree ?_ | (refine cond_t rfl ?_ ?_; (· (refine decide_eq_true ?_; omega))) | refine skip_then ?_ | refine AW_seq ?_ | refine AW_block ?_)
      refine step_tree ?_; (refine g_yes rfl ?_ ?_; (· first | ((refine decide_eq_true ?_; assumption)) | (fail)); (apply m_call (l1Has_spec l x (by omega)))); (· repeat (first | exact lends_nil | (refine lends_cons ?_ ?_; (· (first | exact lend_v | (refine lend_ints ?_; first | rfl | omega))))))
      repeat (first | ((first | refine step_ops ?_ | refine step_tree ?_); ((try (refine g_yes rfl ?_ ?_; (· (refine decide_eq_true ?_; assumption)))); (first | (refine m_mov (by conv => lhs; whnf) ?_) | (refine m_not rfl ?_) | (refine m_pick_t rfl ?_ (by conv => lhs; whnf) ?_; (· (refine decide_eq_true ?_; assumption)))))) | refine AW_ops ?_ | refine end_tree ?_ | (refine cond_t rfl ?_ ?_; (· (refine nt ?_; assumption))))
      refine step_ops ?_; (apply m_callo (l1Own_spec l (by omega))); (· repeat (first | exact lends_nil | (refine lends_cons ?_ ?_; (· (refine lend_ints ?_; first | rfl | omega))))); (· first | exact allv_ints _ | rfl | (simp; done))
      repeat (refine step_ops ?_; (first | (refine m_mov (by conv => lhs; whnf) ?_) | (refine m_bsl1 rfl rfl ?_) | (refine m_app1i rfl (by decide) (by rfl) (by first | rfl | omega | (simp; done)) rfl rfl ?_ (by decide) ?_; (· first | omega | (simp; omega)))))
      refine step_ops ?_
      refine m_callR (fun r => if r = pbase + 1 then 95 else if r = pbase + 2 then 1000 else if r = pbase + 3 then 1001 else r) (giLook_full F (l ++ [(x : Int)]) bh m) (by rfl) ?_ ?_ ?_ ?_ ?_ ?_ ?_ ?_ ?_ ?_
      · exact gA_own _ _ _
      · exact gA_refsF _ _ _ _
      · ((repeat' (first | exact trivial | refine And.intro ?_ ?_)) <;> (first | rfl | exact congrArg (fun c => some (true, c)) (renL_ints _ _).symm | exact congrArg (fun c => some (true, c)) (txs_ren _ _).symm | skip))
      · simp [pbase]
      · simp
      · simp
      · exact hF_own _ _
      · exact hF_ownO _ _
      · rfl
      repeat (first | (refine step_ops ?_; (first | (refine m_mov (by conv => lhs; whnf) ?_) | (refine m_add rfl rfl ?_ ?_ ?_; (· omega); (· omega)))) | refine end_ops ?_ | refine AW_ops ?_ | refine norm_then ?_ | refine norm_block ?_)
      refine next_round (x + 1) hc ?_ ?_
      rotate_left
      · omega
      rw [hps]
      refine weak_st ?_ ?_ rfl rfl
      · (repeat' (first | exact trivial | refine And.intro ?_ ?_)) <;> (first | rfl | exact congrArg (fun c => some (true, c)) (renL_ints _ _) | exact congrArg (fun c => some (true, c)) (txs_ren _ _) | skip)
      · (repeat' (first | exact trivial | refine And.intro ?_ ?_)) <;> (first | rfl | exact congrArg (fun c => some (true, c)) (renL_ints _ _) | exact congrArg (fun c => some (true, c)) (txs_ren _ _) | skip)
  · obtain rfl : x = F.length := by omega
    rw [hall]
    cases T with
    | none =>
      simp only [stR]
      repeat (first | (refine step_ops ?_; (refine m_lss rfl rfl ?_)) | refine end_ops ?_ | refine seq_ops ?_ | (refine cond_f rfl ?_ ?_; (· (refine decide_eq_false ?_; omega))) | refine AW_seq ?_ | refine exit_then ?_ | refine exit_round ?_ | refine AW_exit ?_ | refine exit_block ?_)
      refine norm_R (ho := hR) id (by rfl) ?_ (by simp) (by simp) (by simp)
      (repeat' (first | exact trivial | refine And.intro ?_ ?_ | (refine ⟨_, rfl, .inl ?_⟩; first | rfl | exact congrArg (Prod.mk true) (renL_ints _ _).symm | exact congrArg (Prod.mk true) (txs_ren _ _).symm)))
    | some m =>
      simp only [stR]
      repeat (first | (refine step_ops ?_; (refine m_lss rfl rfl ?_)) | refine end_ops ?_ | refine seq_ops ?_ | (refine cond_f rfl ?_ ?_; (· (refine decide_eq_false ?_; omega))) | refine AW_seq ?_ | refine exit_then ?_ | refine exit_round ?_ | refine AW_exit ?_ | refine exit_block ?_)
      refine norm_R (ho := oR m) (fun r => if r = nbase then 1000 else if r = nbase + 1 then 1001 else r) (by rfl) ?_ (by simp [nbase, pbase]) (by simp [nbase, pbase]) (by simp [nbase, pbase])
      (repeat' (first | exact trivial | refine And.intro ?_ ?_ | (refine ⟨_, rfl, .inl ?_⟩; first | rfl | exact congrArg (Prod.mk true) (renL_ints _ _).symm | exact congrArg (Prod.mk true) (txs_ren _ _).symm)))
theorem lefB_fst (F l bh : List Int) : fstB (fitsG F) F.length 0 l bh = if lefB l bh then some l else none := by
  unfold fstB lefB
  by_cases h : bh = []
  · simp [h, goOn]
  · simp only [if_neg h, goOn, decide_eq_false h, Bool.false_or, List.find?_cons, List.find?_nil]
    cases comesB bh l <;> rfl
theorem giLook_all (F : List Int) (h : IsFam F) (bh : List Int) (hbh : bh = [] ∨ bh.length = F.length) (k : Nat) :
    (∀ l, l.length + k = F.length → fstB (fitsG F) F.length k l bh = none → SpH Try.prog 41 (gArgs F l bh) (Am.look (hE l)) (.tup []) (Am.look (hE l))) ∧
    (∀ l m, k = 0 → l.length + k = F.length → fstB (fitsG F) F.length k l bh = some m → SpH Try.prog 41 (gArgs F l bh) (Am.look (hE l)) (.tup []) (Am.look (oL l))) ∧
    (∀ l m, k ≠ 0 → l.length + k = F.length → fstB (fitsG F) F.length k l bh = some m → SpH Try.prog 41 (gArgs F l bh) (Am.look (hE l)) (.tup []) (Am.look (oI l m))) := by
  induction k with
  | zero =>
    refine ⟨fun l hl hn => ?_, fun l m _ hl hn => ?_, fun l m h0 => absurd rfl h0⟩
    · rw [lefB_fst] at hn
      refine giLook_leafN F l bh h.2.1 (by omega) hbh ?_
      cases hb : lefB l bh with
      | false => rfl
      | true => rw [hb, if_pos rfl] at hn; cases hn
    · rw [lefB_fst] at hn
      refine giLook_leafY F l bh h.2.1 (by omega) hbh ?_
      cases hb : lefB l bh with
      | true => rfl
      | false => rw [hb, if_neg (by simp)] at hn; cases hn
  | succ k ih =>
    have hin := giLook_in F h k bh hbh ih.1 ih.2.1 ih.2.2
    refine ⟨fun l hl hn => ?_, fun l m h0 => absurd h0 (by omega), fun l m _ hl hn => ?_⟩
    · have := hin l hl
      rw [hn] at this
      exact this
    · have := hin l hl
      rw [hn] at this
      exact this
theorem giLook_spec (F : List Int) (h : IsFam F) (bh : List Int) (hbh : bh = [] ∨ bh.length = F.length) (bv : AV) (hbv : bv = ints bh ∨ bv = .v (.slice none 0 0) ∧ bh = []) :
    SpH Try.prog 41 [ints F, .v (.slice none 0 0), bv, .i 1, .pt pbase 0] (Am.look hR) (.tup []) (Am.look (oZ (fstB (fitsG F) F.length F.length [] bh))) := by
  obtain ⟨k, hk⟩ : ∃ k, F.length = k + 1 := ⟨F.length - 1, by have := h.1; omega⟩
  have ih := giLook_all F h bh hbh k
  have := giLook_root F h k bh hbh ih.1 ih.2.1 ih.2.2 [] (by simp; omega) rfl bv hbv
  rw [← hk] at this
  exact this
end Go.Proofs.Ytbeflnnejofleaa
namespace Go.Am
variable [Go.Am.CodeBlk]
variable {P : Program} {own : Bool} {s : AS} {K : AS → Prop} {d : Option Nat} {x y : Opd} {a k : Nat}
theorem m_shri (hx : s.ev x = .i (a : Nat)) (hy : s.ev y = .i (k : Nat)) (hk : k < 64) (kk : K (s.put d (.i (a >>> k : Nat)))) : aop1 P own ⟨d, .bin .shr x y, none⟩ s K := by
  refine ⟨_, _, _, hx, hy, ?_, kk⟩
  have h1 : ¬ ((k : Nat) : Int) < 0 := by omega
  have h2 : min ((k : Nat) : Int).toNat IntKind.i64.bits = k := by show min _ 64 = k; omega
  show (if ((k : Nat) : Int) < 0 then none else some (Value.int .i64 ((a : Int).fdiv (2 ^ (min ((k : Nat) : Int).toNat IntKind.i64.bits))))) = _
  rw [if_neg h1, h2, Nat.shiftRight_eq_div_pow]
  congr 2
  rw [Int.fdiv_eq_ediv_of_nonneg _ (by exact Int.le_of_lt (Int.pow_pos (by decide)))]
  push_cast
  rfl
theorem m_shli (hx : s.ev x = .i 1) (hy : s.ev y = .i (k : Nat)) (hk : k < 62) (kk : K (s.put d (.i (2 ^ k : Nat)))) : aop1 P own ⟨d, .bin .shl x y, none⟩ s K := by
  refine ⟨_, _, _, hx, hy, ?_, kk⟩
  have h1 : ¬ ((k : Nat) : Int) < 0 := by omega
  have h2 : min ((k : Nat) : Int).toNat IntKind.i64.bits = k := by show min _ 64 = k; omega
  show (if ((k : Nat) : Int) < 0 then none else some (Value.int .i64 (IntKind.i64.wrap ((1 : Int) * 2 ^ (min ((k : Nat) : Int).toNat IntKind.i64.bits))))) = _
  rw [if_neg h1, h2]
  congr 2
  have h3 : 2 ^ k < 2 ^ 62 := Nat.pow_lt_pow_right (by decide) hk
  have h62 : (2 : Nat) ^ 62 = 4611686018427387904 := by decide
  have h4 : ((1 : Int) * (2 : Int) ^ k) = ((2 ^ k : Nat) : Int) := by rw [Int.one_mul]; push_cast; rfl
  rw [h4, IntKind.wrap_i64]
  generalize 2 ^ k = z at *
  omega
theorem m_andi1 (hx : s.ev x = .i (a : Nat)) (hy : s.ev y = .i 1) (ha : a < 4611686018427387904) (kk : K (s.put d (.i (a &&& 1 : Nat)))) : aop1 P own ⟨d, .bin .and x y, none⟩ s K := by
  refine ⟨_, _, _, hx, hy, ?_, kk⟩
  show some (Value.int .i64 (IntKind.i64.wrap ((BitVec.ofInt IntKind.i64.bits (a : Int) &&& BitVec.ofInt IntKind.i64.bits 1).toNat : Int))) = _
  have h1 : (BitVec.ofInt IntKind.i64.bits (a : Int)).toNat = a := by
    show (BitVec.ofInt 64 (a : Int)).toNat = a
    rw [BitVec.ofInt_natCast, BitVec.toNat_ofNat]
    omega
  have h2 : (BitVec.ofInt IntKind.i64.bits 1).toNat = 1 := by decide
  have h3 : a &&& 1 ≤ 1 := Nat.and_le_right
  have h5 : IntKind.i64.wrap ((a &&& 1 : Nat) : Int) = ((a &&& 1 : Nat) : Int) := by
    rw [IntKind.wrap_i64]
    generalize a &&& 1 = z at *
    omega
  rw [BitVec.toNat_and, h1, h2, h5]
/-- One guest more, by a sum. -/
theorem bit_add {S k : Nat} (h : S.testBit k = false) : S + 2 ^ k = S ||| 1 <<< k := by
  have h1 : S = 2 ^ k * (S / 2 ^ k) + S % 2 ^ k := (Nat.div_add_mod S (2 ^ k)).symm
  have hlt : S % 2 ^ k < 2 ^ k := Nat.mod_lt _ (Nat.two_pow_pos k)
  have hev : (S / 2 ^ k) % 2 = 0 := by
    rw [Nat.testBit_eq_decide_div_mod_eq] at h
    have := of_decide_eq_false h
    omega
  obtain ⟨m, hm⟩ : ∃ m, S / 2 ^ k = 2 * m := ⟨S / 2 ^ k / 2, by omega⟩
  have h2 : 2 * m ||| 1 = 2 * m + 1 := by
    have := Nat.two_pow_add_eq_or_of_lt (i := 1) (b := 1) (by decide) m
    simpa using this.symm
  apply Nat.eq_of_testBit_eq
  intro i
  rw [Nat.testBit_or, Nat.one_shiftLeft]
  have e1 : S + 2 ^ k = 2 ^ k * (2 * m + 1) + S % 2 ^ k := by
    conv => lhs; rw [h1, hm]
    rw [Nat.mul_add]; omega
  rw [e1, Nat.testBit_two_pow_mul_add _ hlt]
  have e2 : S.testBit i = (2 ^ k * (2 * m) + S % 2 ^ k).testBit i := by rw [← hm, Nat.div_add_mod]
  rw [e2, Nat.testBit_two_pow_mul_add _ hlt, Nat.testBit_two_pow]
  split
  · rename_i hi
    simp
    intro hc; omega
  · rename_i hi
    rw [← h2, Nat.testBit_or]
    congr 1
    rw [show (1 : Nat) = 2 ^ 0 from rfl, Nat.testBit_two_pow]
    simp
    omega
/-- How many are outside. -/
def outN (n S : Nat) : Nat := ((List.range n).filter fun i => !S.testBit i).length
theorem out_succ (n S : Nat) : outN (n + 1) S = outN n S + (if S.testBit n = true then 0 else 1) := by
  unfold outN
  rw [List.range_succ, List.filter_append, List.length_append]
  cases h : S.testBit n <;> simp [h]
theorem out_same {S T : Nat} : ∀ n, (∀ i < n, S.testBit i = T.testBit i) → outN n S = outN n T
  | 0, _ => rfl
  | n + 1, h => by rw [out_succ, out_succ, out_same n fun i hi => h i (by omega), h n (by omega)]
theorem bit_more {S k : Nat} (h : S.testBit k = false) (i : Nat) : (S + 2 ^ k).testBit i = (S.testBit i || decide (i = k)) := by rw [bit_add h, bit_or]
theorem out_more {S k : Nat} (h : S.testBit k = false) : ∀ n, k < n → outN n (S + 2 ^ k) + 1 = outN n S
  | 0, hk => absurd hk (by omega)
  | n + 1, hk => by
    rw [out_succ, out_succ]
    by_cases e : k = n
    · subst e
      have hs : ∀ i < k, (S + 2 ^ k).testBit i = S.testBit i := fun i hi => by
        rw [bit_more h, show decide (i = k) = false from decide_eq_false (by omega), Bool.or_false]
      have hk1 : (S + 2 ^ k).testBit k = true := by rw [bit_more h]; simp
      rw [out_same k hs, hk1, h]
      simp
    · have := out_more h n (by omega)
      rw [bit_more h, show decide (n = k) = false from decide_eq_false fun e' => e e'.symm, Bool.or_false]
      omega
theorem out_zero {S : Nat} : ∀ n, outN n S = 0 → ∀ i < n, S.testBit i = true
  | 0, _, i, hi => absurd hi (by omega)
  | n + 1, h, i, hi => by
    rw [out_succ] at h
    by_cases e : i = n
    · subst e
      cases hb : S.testBit i with
      | true => rfl
      | false => rw [hb] at h; simp at h
    · exact out_zero n (by omega) i (by omega)
theorem out_full {S : Nat} : ∀ n, (∀ i < n, S.testBit i = true) → outN n S = 0
  | 0, _ => rfl
  | n + 1, h => by rw [out_succ, out_full n fun i hi => h i (by omega), h n (by omega)]; rfl
end Go.Am
namespace Go.Am
variable [Go.Am.CodeBlk]
theorem g_un {P : Program} {own : Bool} {s : AS} {K : AS → Prop} {d : Option Nat} {op : AOp} {t : Nat} {w : Bool} (h : s.tm t = .v undef) (k : K (s.put d (.v undef))) : aop1 P own ⟨d, op, some (t, w)⟩ s K := .inr ⟨h, k⟩
end Go.Am
namespace Go.Proofs.Ytbeflnnejofleaa
variable [Go.Am.CodeBlk]
open Go.Am
attribute [local irreducible] AW Outs Weak Lends Lend Sp aops atree aop1 Then Round InBlock Done
theorem m_shlz {P : Program} {own : Bool} {s : AS} {K : AS → Prop} {d : Option Nat} {x y : Opd} {k z : Nat} (hx : s.ev x = .i 1) (hy : s.ev y = .i (k : Nat)) (hk : k < 62) (hz : 2 ^ k = z) (kk : K (s.put d (.i (z : Nat)))) : aop1 P own ⟨d, .bin .shl x y, none⟩ s K := m_shli hx hy hk (by rw [hz]; exact kk)
theorem bit_zero {a k : Nat} (h : a.testBit k = false) : (a >>> k) &&& 1 = 0 := by
  have := bit_and a k
  have h1 : (a >>> k) &&& 1 ≤ 1 := Nat.and_le_right
  rw [h] at this
  have := of_decide_eq_false this
  omega
theorem bit_one {a k : Nat} (h : a.testBit k = true) : (a >>> k) &&& 1 = 1 := by
  have := bit_and a k
  rw [h] at this
  exact of_decide_eq_true this
theorem out_le (n S : Nat) : outN n S ≤ n := by
  unfold outN
  have := List.length_filter_le (fun i => !S.testBit i) (List.range n)
  rwa [List.length_range] at this
end Go.Proofs.Ytbeflnnejofleaa
namespace Go.Am
variable [Go.Am.CodeBlk]
theorem m_subk {P : Program} {own : Bool} {s : AS} {K : AS → Prop} {d : Option Nat} {x y : Opd} {q : IntKind} {a b c : Int} (hx : s.ev x = .v (.int q a)) (hy : s.ev y = .v (.int q b)) (hc : q.wrap (a - b) = c) (k : K (s.put d (.v (.int q c)))) : aop1 P own ⟨d, .bin .sub x y, none⟩ s K := ⟨_, _, .int q c, hx, hy, by simp [pbin, hc], k⟩
end Go.Am
namespace Go.Proofs.Ytbeflnnejofleaa
variable [Go.Am.CodeBlk]
open Go.Am
attribute [local irreducible] AW Outs Weak Lends Lend Sp aops atree aop1 Then Round InBlock Done
theorem gsHas_spec (S k : Nat) (hS : S < 65536) (hk : k < 16) : Sp Try.prog 32 [.u S, .i k] (.b (S.testBit k)) := by
  have hsh : S >>> k < 65536 := Nat.lt_of_le_of_lt (Nat.shiftRight_le S k) hS
  refine spec_of Try.func32 rfl cc32 rfl ?_
  unfold ac32
  repeat (first | ((first | (refine step_ops ?_; (refine m_mov (by conv => lhs; whnf) ?_)) | refine end_ops ?_ | refine seq_ops ?_ | refine AW_ret ?_ | refine ret_done ?_)) | (refine step_ops ?_; first | (refine m_shr16 (k := k) rfl rfl hk ?_) | (refine m_and16_1 (a := S >>> k) rfl rfl hsh ?_) | (refine m_eql16_1 rfl rfl ?_)))
  exact outs_b (by rw [← bit_and S k]; all_goals exact decide_eq_decide.2 (by omega))
theorem gsWith_spec (S k : Nat) (hS : S < 65536) (hk : k < 16) : Sp Try.prog 35 [.u S, .i k] (.u (S ||| 1 <<< k)) := by
  refine spec_of Try.func35 rfl cc35 rfl ?_
  unfold ac35
  repeat (first | ((first | (refine step_ops ?_; (refine m_mov (by conv => lhs; whnf) ?_)) | refine end_ops ?_ | refine seq_ops ?_ | refine AW_ret ?_ | refine ret_done ?_)) | (refine step_ops ?_; first | (refine m_shl16 (k := k) rfl rfl hk ?_) | (refine m_or16 rfl rfl hS (shl16_lt hk) ?_)))
  exact outs_v
theorem everyone_spec (F : List Int) (h9 : F.length ≤ 9) : Sp Try.prog 56 [.agg (kinV F)] (.u (2 ^ F.length - 1)) := by
  have hl := kinV_len h9
  have hp : 1 <<< F.length < 65536 := shl16_lt (by omega)
  have hpos : 0 < 1 <<< F.length := by rw [Nat.one_shiftLeft]; exact Nat.two_pow_pos _
  have hw : IntKind.u16.wrap (((1 <<< F.length : Nat) : Int) - 1) = ((2 ^ F.length - 1 : Nat) : Int) := by
    have e : ((1 <<< F.length : Nat) : Int) - 1 = ((1 <<< F.length - 1 : Nat) : Int) := (Int.natCast_sub hpos).symm
    refine (congrArg _ e).trans ?_
    rw [wrap16 (by omega), Nat.one_shiftLeft]
  refine spec_of Try.func56 rfl cc56 rfl ?_
  unfold ac56
  repeat (first | ((first | (refine step_ops ?_; (first | (refine m_mov (by conv => lhs; whnf) ?_) | (apply m_ld_pt; (· rfl); (· rfl); (· rfl)) | (refine m_fa rfl ?_))) | refine end_ops ?_ | refine seq_ops ?_ | refine AW_ret ?_ | refine ret_done ?_)) | (refine step_ops ?_; first | (refine m_box rfl (kinV_ok F true) ?_) | (refine m_shl16 (k := F.length) rfl rfl (by omega) ?_) | (refine m_subk rfl rfl hw ?_)))
  exact outs_v
end Go.Proofs.Ytbeflnnejofleaa
namespace Go.Am
variable [Go.Am.CodeBlk]
theorem m_boxf {P : Program} {own : Bool} {s : AS} {K : AS → Prop} {x : Opd} {r n : Nat} {l : List AV} (hx : s.ev x = .agg l) (hok : l.all (cellOk false) = true) (hk : killR r (false, l) = (false, l)) (k : K (((s.kill r).mem r (false, l)).put (some r) (.pt r 0))) : aop1 P own ⟨some r, .box n x, none⟩ s K :=
  ⟨r, false, rfl, .inr ⟨l, hx, hok, by rw [hk]; exact k⟩⟩
theorem killL_app (r : Nat) : ∀ l m : List AV, killL r (l ++ m) = killL r l ++ killL r m
  | [], m => by simp [killL]
  | a :: l, m => by simp [killL, killL_app r l m]
theorem killL_i (r : Nat) : ∀ l : List Int, killL r (l.map AV.i) = l.map AV.i
  | [] => rfl
  | a :: l => by rw [List.map_cons, killL, killL_i r l, killV]
def mpC (m : Array MapEntry × Nat) : Bool × List AV := (true, [.ob (.map m.1 m.2)])
def hM (m : Array MapEntry × Nat) : Hp := fun r => if r = pbase then some (mpC m) else none
theorem hM_pb {m : Array MapEntry × Nat} (r : Nat) (h : (hM m r).isSome = true) : r = pbase := by
  unfold hM at h
  split at h
  · assumption
  · cases h
theorem hM_at {m : Array MapEntry × Nat} {r : Nat} {c : Bool × List AV} (h : hM m r = some c) : r = pbase ∧ c = mpC m := by
  unfold hM at h
  split at h
  · cases h; exact ⟨by assumption, rfl⟩
  · cases h
theorem hM_self (m : Array MapEntry × Nat) : hM m pbase = some (mpC m) := if_pos rfl
theorem lent_M {s : AS} {m m' : Array MapEntry × Nat} {n : Int} (h : s.hp pbase = some (mpC m)) : Lent s id (hM m) (hM m') (s.mem pbase (mpC m')).hp (.i n) where
  has := fun r c hc => by obtain ⟨rfl, rfl⟩ := hM_at hc; exact h
  inj := fun r r' _ _ h => h
  stay := fun r hr => by rw [hM_pb r hr, hM_self]; rfl
  fresh := fun r hr hn => by rw [hM_pb r hr, hM_self] at hn; cases hn
  new := fun r c hc => by obtain ⟨rfl, rfl⟩ := hM_at hc; simp [AS.mem]; rfl
  old := fun q hq => by
    have : q ≠ pbase := fun e => hq pbase (by rw [hM_self]; rfl) e.symm
    simp [AS.mem, this]
  ownI := fun r c hc => by obtain ⟨rfl, rfl⟩ := hM_at hc; exact ⟨rfl, rfl⟩
  ownO := fun r c hc => by obtain ⟨rfl, rfl⟩ := hM_at hc; rfl
  ownR := rfl
end Go.Am
namespace Go.Proofs.Ytbeflnnejofleaa
variable [Go.Am.CodeBlk]
open Go.Am
attribute [local irreducible] AW Outs Weak Lends Lend Sp aops atree aop1 Then Round InBlock Done
def kmV (F : List Int) : List AV := kinV F ++ [.mp pbase]
theorem kmV_len {F : List Int} (h : F.length ≤ 9) : (kmV F).length = 11 := by simp [kmV, kinV_len h]
theorem kmV_kin {F : List Int} (h : F.length ≤ 9) : ((kmV F).drop 0).take 10 = kinV F := by
  rw [List.drop_zero, kmV, List.take_left' (kinV_len h)]
theorem kmV_mp {F : List Int} (h : F.length ≤ 9) : (kmV F)[10]? = some (.mp pbase) := by
  rw [kmV, List.getElem?_append_right (by rw [kinV_len h]; exact Nat.le_refl _), kinV_len h]; rfl
theorem kmV_kill (F : List Int) : killR 2 (false, kmV F) = (false, kmV F) := by
  unfold killR kmV kinV
  simp only [List.cons_append, killL, killL_app, killL_i, killV]
  rfl
theorem kmV_ok {F : List Int} : (kmV F).all (cellOk false) = true := by
  rw [kmV, List.all_append, kinV_ok]; rfl
end Go.Proofs.Ytbeflnnejofleaa
namespace Go.Am
variable [Go.Am.CodeBlk]
variable {P : Program} {N : Nat} {s : AS}
def DoneHG (rs : List RV) (res : AV) (hin hout : Hp) : Exit → AS → Prop
  | .normal, s | .ret, s => ∃ g : Nat → Nat, ∃ xs, (rvsOk s rs xs ∧ tupAV xs = renV g res) ∧ (∀ r c, hout r = some c → ∃ c0, s.hp (g r) = some c0 ∧ (c0 = renR g c ∨ (c.2 = [] ∧ c0.2 = []))) ∧ (∀ r, (hin r).isSome = true → g r = r ∧ (hout r).isSome = true) ∧
      (∀ r, (hout r).isSome = true → hin r = none → g r < pbase) ∧ (∀ r r', (hout r).isSome = true → (hout r').isSome = true → g r = g r' → r = r')
  | _, _ => False
theorem ret_donehg {rs : List RV} {res : AV} {hin hout : Hp} (g : Nat → Nat) (xs : List AV) (h1 : rvsOk s rs xs) (h2 : tupAV xs = renV g res) (h3 : ∀ r c, hout r = some c → ∃ c0, s.hp (g r) = some c0 ∧ (c0 = renR g c ∨ (c.2 = [] ∧ c0.2 = []))) (h4 : ∀ r, (hin r).isSome = true → g r = r ∧ (hout r).isSome = true)
    (h5 : ∀ r, (hout r).isSome = true → hin r = none → g r < pbase) (h6 : ∀ r r', (hout r).isSome = true → (hout r').isSome = true → g r = g r' → r = r') : DoneHG rs res hin hout .ret s := ⟨g, xs, ⟨h1, h2⟩, h3, h4, h5, h6⟩
theorem specHG_of {f : FuncId} {fn : Func} {code : Code} {ac : ACode} {rvs : List RV} {asx : List AV} {hin hout : Hp} {res : AV} (hf : P.funcs[f]? = some fn) (hb : fn.body = some code) (hc : ccode P (min fn.ntmps pbase) code = some ac) (hr : resG P fn = some rvs)
    (hst : Static hin res hout) (h : AW P (min fn.ntmps pbase) ac (enterH asx hin) (DoneHG rvs res hin hout)) : SpH P f asx hin res hout := by
  intro w vs phi hg hgb hinj hregs hs hl
  refine calls_of_wp hf hb (wp_mono (h code hc w _ _ w ⟨rfl, _, _, enterH_sim hg hgb hst.pb hinj hregs hs hl⟩) fun e a' w' hA => ?_)
  obtain ⟨s', h1, hf', phi', ro, hS⟩ := hA
  have fin : (∃ g : Nat → Nat, ∃ xs, (rvsOk s' rvs xs ∧ tupAV xs = renV g res) ∧ (∀ r c, hout r = some c → ∃ c0, s'.hp (g r) = some c0 ∧ (c0 = renR g c ∨ (c.2 = [] ∧ c0.2 = []))) ∧ (∀ r, (hin r).isSome = true → g r = r ∧ (hout r).isSome = true) ∧
      (∀ r, (hout r).isSome = true → hin r = none → g r < pbase) ∧ (∀ r r', (hout r).isSome = true → (hout r').isSome = true → g r = g r' → r = r')) → a'.defers = [] ∧ ∃ v, (results fn a'.tmps).run P w' = .ok v w' ∧
      ∃ v' phi', Ending.returned v = .returned v' ∧ w'.os = w.os ∧ w'.tape = w.tape ∧ w'.output = w.output ∧ w.heap.size ≤ w'.heap.size ∧
      (∀ r, (hin r).isSome = true → phi' r = phi r) ∧ (∀ b, b < w.heap.size → (∀ r, (hin r).isSome = true → phi r ≠ some b) → w'.heap[b]? = w.heap[b]?) ∧
      (∀ (b : Nat) (cur : Array Value) (e : TypeId) (f : Nat × Nat), w.heap[b]? = some (.cells cur e f) → ∃ cur' : Array Value, w'.heap[b]? = some (.cells cur' e f) ∧ cur'.size = cur.size) ∧
      Inj hout phi' ∧ (∀ r b, (hout r).isSome = true → hin r = none → phi' r = some b → w.heap.size ≤ b) ∧ Regs (ctxX w w' phi' hout) hout ∧ SimV res (ctxX w w' phi' hout) v' := by
    rintro ⟨g, xs, ⟨hx, hres⟩, hhas, hstay, hfresh, hgi⟩
    have hlv : ∀ r, (hout r).isSome = true → (s'.hp (g r)).isSome = true := by
      intro r hr
      obtain ⟨c, hc⟩ := Option.isSome_iff_exists.1 hr
      obtain ⟨c0, h1, _⟩ := hhas r c hc
      rw [h1]; rfl
    obtain ⟨ys, q1, q2, q3⟩ := rvs_run hS hr hx
    have hr0 : results fn a'.tmps = (do let vs ← fn.results.mapM (resOne a'.tmps); pure (if h : vs.size = 1 then vs[0] else .tuple vs)) := rfl
    have hm : (fn.results.mapM (m := Sem) (resOne a'.tmps)).run P w' = .ok ys.toArray w' := by
      rw [Array.mapM_eq_mapM_toList, Sem.run_map, q1]
      rfl
    have hrun : (results fn a'.tmps).run P w' = .ok (if h : ys.toArray.size = 1 then ys.toArray[0] else .tuple ys.toArray) w' := by
      rw [hr0, Sem.run_bind, hm]
      simp
    have hall : ∀ r b, (if (hin r).isSome = true then phi r else none) = some b → (s'.hp r).isSome = true := by
      intro r b hb
      split at hb
      · rename_i hi
        have := hlv r (hstay r hi).2
        rw [(hstay r hi).1] at this
        exact this
      · cases hb
    have hvt : SimV (tupAV xs) (ctx w w' ro phi' s') (if h : ys.toArray.size = 1 then ys.toArray[0] else .tuple ys.toArray) := by
      match xs, ys, q2, q3 with
      | [x], [y], k2, _ =>
        simp only [SimL] at k2
        simpa [tupAV] using k2.1
      | [], [], _, _ => simp [tupAV, SimV, SimL]
      | x :: x' :: xs, y :: y' :: ys, k2, k3 =>
        simp only [tupAV, SimV]
        exact ⟨(y :: y' :: ys).toArray, by simp, by simpa using k3, k2⟩
    rw [hres] at hvt
    refine ⟨hf', _, hrun, _, fun r => phi' (g r), rfl, hS.os, hS.tape, hS.output, hS.size, fun r hr => ?_, fun b hb hne => hS.kept b hb fun r hr => ?_, hS.shp, ?_, ?_, ?_, ?_⟩
    · obtain ⟨e1, e2⟩ := hstay r hr
      obtain ⟨c, hc⟩ := Option.isSome_iff_exists.1 e2
      obtain ⟨c0, hh, _⟩ := hhas r c hc
      rw [e1] at hh
      show phi' (g r) = phi r
      rw [e1]
      rcases hS.liv r _ hh with ⟨k1, _, k3⟩ | ⟨b, cur, e', k1, _, _, k4, _⟩ | ⟨b, o, _, k1, _, _, _, k4⟩
      case inr.inr =>
        rcases k4 with k4 | k4
        · have := hst.pb r hr; omega
        · have k5 := k4.2
          simp only [hr, if_true] at k5
          rw [k1, k5]
      · have k5 := k3 (hst.pb r hr)
        simp only [hr, if_true] at k5
        rw [k1, k5]
      · rcases k4 with k4 | k4
        · have := hst.pb r hr; omega
        · have k5 := k4.2
          simp only [hr, if_true] at k5
          rw [k1, k5]
    · split at hr
      · rename_i hrs; exact hne r hrs hr
      · cases hr
    · intro r r' b h1 h2 h3 h4
      exact hgi r r' h1 h2 (hS.inj _ _ b (hlv r h1) (hlv r' h2) h3 h4)
    · intro r b h1 h2 h3
      obtain ⟨c, hc⟩ := Option.isSome_iff_exists.1 h1
      have hlt := hfresh r h1 h2
      obtain ⟨c0, hh0, _⟩ := hhas r c hc
      rcases hS.liv _ _ hh0 with ⟨k1, _⟩ | ⟨b', _, _, k1, _, _, k4, _⟩ | ⟨b', _, _, k1, _, _, _, k4⟩
      · have h3' : phi' (g r) = some b := h3
        rw [k1] at h3'; cases h3'
      case inr.inr =>
        have h3' : phi' (g r) = some b := h3
        rw [k1] at h3'; cases h3'
        rcases k4 with k4 | k4
        · exact hS.mine_new hall (by rw [hh0]; rfl) k4.1 k1 k4.2
        · omega
      · have h3' : phi' (g r) = some b := h3
        rw [k1] at h3'; cases h3'
        rcases k4 with k4 | k4
        · exact hS.mine_new hall (by rw [hh0]; rfl) k4.1 k1 k4.2
        · omega
    · intro r c hc
      obtain ⟨ho, hrf⟩ := hst.own r c hc
      obtain ⟨c0, hh0, hc0⟩ := hhas r c hc
      rcases hS.liv _ _ hh0 with ⟨k1, k2, _⟩ | ⟨b, cur, e', k1, k2, _, _, k5⟩ | ⟨b, o, h0, k1, k2, k3, _⟩
      case inr.inr =>
        rcases hc0 with rfl | hc0
        · exact .inr (.inr ⟨b, o, renR_ob h0, k1, k2, k3⟩)
        · rw [h0] at hc0; simp at hc0
      · refine .inl ⟨k1, ?_⟩
        rcases hc0 with rfl | hc0
        · obtain ⟨fl, cs⟩ := c
          simp only [renR, renL_map] at k2
          exact List.map_eq_nil_iff.1 k2
        · exact hc0.1
      · rcases hc0 with rfl | hc0
        case inr => exact .inr (.inl ⟨b, cur, e', k1, k2, by unfold SimR; rw [hc0.1]; simp [SimL]⟩)
        refine .inr (.inl ?_)
        exact ⟨b, cur, e', k1, k2, simR_in (q := false) (C := ctxX w w' (fun r => phi' (g r)) hout) (D := ctx w w' ro phi' s') rfl (fun e => by cases e) (fun _ => rfl) (fun _ r _ => rfl) ho hrf k5⟩
    · exact simV_in false g (ctxX w w' (fun r => phi' (g r)) hout) (ctx w w' ro phi' s') rfl (fun e => by cases e) (fun _ => rfl) (fun _ r _ => rfl) res _ hst.res.1 hst.res.2 hvt
  cases e with
  | normal => exact fin h1
  | ret => exact fin h1
  | exit id => exact h1.elim
  | goto l => exact h1.elim
  | panic c => exact h1.elim
  | outgrown => exact h1.elim
end Go.Am
namespace Go.Am
variable [Go.Am.CodeBlk]
/-- A remembering map whose entries are right. -/
def MapOkV (v : Nat → Nat) (es : Array MapEntry) : Prop := ∀ e ∈ es.toList, ∃ n : Nat, e.key = .int .u16 (n : Nat) ∧ e.val = .int .i64 (v n : Nat)
end Go.Am
namespace Go.Am
variable [Go.Am.CodeBlk]
theorem doneV {v : Nat → Nat} {ts : List Nat} {s : AS} {m0 m' : Array MapEntry × Nat} {n : Int} (hres : resAV s ts = .i n) (hr : s.hp pbase = some (mpC m')) (ok : MapOkV v m'.1) : DoneX ts (fun m' : Array MapEntry × Nat => MapOkV v m'.1) (fun _ => .i n) (hM m0) hM .ret s :=
  ⟨m', ok, ret_doneh id hres (fun r c hc => by obtain ⟨rfl, rfl⟩ := hM_at hc; exact ⟨_, hr, .inl rfl⟩) (fun r hr => ⟨rfl, by rw [hM_pb r hr, hM_self]; rfl⟩) (fun r h1 h2 => by rw [hM_pb r h1, hM_self] at h2; cases h2) (fun r r' _ _ h => h)⟩
end Go.Am
namespace Go.Proofs.Ytbeflnnejofleaa
variable [Go.Am.CodeBlk]
open Go.Am
attribute [local irreducible] AW Outs Weak Lends Lend Sp aops atree aop1 Then Round InBlock Done
theorem refsL_app (keep : Nat → Bool) : ∀ l m : List AV, refsL keep l = true → refsL keep m = true → refsL keep (l ++ m) = true
  | [], m, _, h => h
  | a :: l, m, h1, h2 => by
    simp only [List.cons_append, refsL, Bool.and_eq_true] at h1 ⊢
    exact ⟨h1.1, refsL_app keep l m h1.2 h2⟩
theorem ownL_app (q : Bool) : ∀ l m : List AV, ownL q l = true → ownL q m = true → ownL q (l ++ m) = true
  | [], m, _, h => h
  | a :: l, m, h1, h2 => by
    simp only [List.cons_append, ownL, Bool.and_eq_true] at h1 ⊢
    exact ⟨h1.1, ownL_app q l m h1.2 h2⟩
theorem ownL_i (q : Bool) : ∀ l : List Int, ownL q (l.map AV.i) = true
  | [] => by simp [ownL]
  | a :: l => by simp [ownL, ownV, ownL_i q l]
theorem renL_idI : ∀ l : List Int, renL id (l.map AV.i) = l.map AV.i
  | [] => by simp [renL]
  | a :: l => by simp [renL, renV, renL_idI l]
theorem renL_appI (f : Nat → Nat) (l m : List AV) : renL f (l ++ m) = renL f l ++ renL f m := by rw [renL_map, renL_map, renL_map, List.map_append]
theorem kmV_ren (F : List Int) : renL id (kmV F) = kmV F := by
  unfold kmV kinV
  rw [renL_appI, renL, renL_idI]
  simp [renL, renV]
theorem lendsH_km (F : List Int) (m : Array MapEntry × Nat) {hp : Hp} (h : hp pbase = some (mpC m)) {T : Value} : LendsH hp id (hM m) [.agg (kmV F), .v T] [.agg (kmV F), .v T] := by
  have h1 := @lendsH_ren _ hp id (hM m) [.agg (kmV F), .v T] (fun r c hc => by obtain ⟨rfl, rfl⟩ := hM_at hc; show (hp pbase).isSome = true; rw [h]; rfl)
    (by simp only [ownL, ownV, Bool.and_true]; unfold kmV kinV; exact ownL_app true _ _ (by simp [ownL, ownV, ownL_i]) (by simp [ownL, ownV]))
    (by simp only [refsL, refsV, Bool.and_true]; exact refsL_app _ _ _ (refsL_plain (kinV_plain F)) (by simp [refsL, refsV, hM_self]))
  simp only [renL, renV, kmV_ren] at h1
  exact h1
theorem m_callkv {v : Nat → Nat} {P : Program} {s : AS} {K : AS → Prop} {d : Option Nat} {f : FuncId} {args : List Opd} {F : List Int} {m : Array MapEntry × Nat} {T : Value} {n : Int} (hs : SpX P f [.agg (kmV F), .v T] (hM m) (fun m' => MapOkV v m'.1) (fun _ => .i n) hM)
    (hargs : args.map s.ev = [.agg (kmV F), .v T]) (hr : s.hp pbase = some (mpC m)) (hm : MapOkV v m.1) (k : ∀ m', MapOkV v m'.1 → K ((s.mem pbase (mpC m')).put d (.i n))) : aop1 P true ⟨d, .call f args, none⟩ s K :=
  m_callx id hs (by rw [hargs]; exact lendsH_km F m hr) ⟨m, hm⟩ fun m' hm' => ⟨lent_M hr, k m' hm'⟩
theorem mapOkV_push {v : Nat → Nat} {es : Array MapEntry} {S c : Nat} (h : MapOkV v es) : MapOkV v (es.push { key := .int .u16 (S : Nat), val := .int .i64 (v S : Nat), born := c }) := by
  intro e he
  rw [Array.toList_push] at he
  rcases List.mem_append.1 he with he | he
  · exact h e he
  · rw [List.mem_singleton.1 he]; exact ⟨S, rfl, rfl⟩
theorem mapOkV_mod {v : Nat → Nat} {es : Array MapEntry} {S n : Nat} (h : MapOkV v es) : MapOkV v (es.modify n fun e => { e with key := .int .u16 (S : Nat), val := .int .i64 (v S : Nat) }) := by
  intro e he
  rw [Array.toList_modify] at he
  obtain ⟨i, hi, rfl⟩ := List.getElem_of_mem he
  rw [List.getElem_modify]
  split
  · exact ⟨S, rfl, rfl⟩
  · exact h _ (List.getElem_mem _)
theorem refsH_km (F : List Int) (m : Array MapEntry × Nat) : refsH (fun r => (Am.look [(2, (false, kmV F)), (pbase, mpC m)] r).isSome) [(2, (false, kmV F)), (pbase, mpC m)] = true := by
  have h : ∀ keep : Nat → Bool, keep pbase = true → refsL keep (kmV F) = true := fun keep hk => refsL_app keep _ _ (refsL_plain (kinV_plain F)) (by simp [refsL, refsV, hk])
  show ((false || refsL _ (kmV F)) && ((true || _) && true)) = true
  rw [h _ rfl]
  rfl
end Go.Proofs.Ytbeflnnejofleaa
namespace Go.Am
variable [Go.Am.CodeBlk]
/-- An empty map of one's own, handed out. -/
def hN : Hp := fun r => if r = nbase then some (mpC (#[], 0)) else none
theorem hN_at {r : Nat} {c : Bool × List AV} (h : hN r = some c) : r = nbase ∧ c = mpC (#[], 0) := by
  unfold hN at h
  split at h
  · cases h; exact ⟨by assumption, rfl⟩
  · cases h
theorem hN_nb {r : Nat} (h : (hN r).isSome = true) : r = nbase := by
  obtain ⟨c, hc⟩ := Option.isSome_iff_exists.1 h
  exact (hN_at hc).1
theorem hN_self : hN nbase = some (mpC (#[], 0)) := if_pos rfl
/-- The name of the new map. -/
def gN (q : Nat) : Nat → Nat := fun r => if r = nbase then q else r
theorem gN_self (q : Nat) : gN q nbase = q := if_pos rfl
/-- The name of a map that is lent. -/
def gM (q : Nat) : Nat → Nat := fun r => if r = pbase then q else r
theorem gM_self (q : Nat) : gM q pbase = q := if_pos rfl
theorem lent_N {s : AS} {q : Nat} {res : AV} (hq : s.hp q = none) (hqp : q < pbase) (hr : ownV false res = true) : Lent s (gN q) (fun _ => none) hN (s.mem q (mpC (#[], 0))).hp res where
  has := fun r c hc => by cases hc
  inj := fun r r' h1 h2 _ => by rw [hN_nb h1, hN_nb h2]
  stay := fun r hr => by cases hr
  fresh := fun r hr _ => by rw [hN_nb hr, gN_self]; exact ⟨hq, hqp⟩
  new := fun r c hc => by obtain ⟨rfl, rfl⟩ := hN_at hc; rw [gN_self]; simp [AS.mem]; rfl
  old := fun p hp => by
    have : p ≠ q := fun e => hp nbase (by rw [hN_self]; rfl) (by rw [gN_self, e])
    simp [AS.mem, this]
  ownI := fun r c hc => by cases hc
  ownO := fun r c hc => by obtain ⟨rfl, rfl⟩ := hN_at hc; rfl
  ownR := hr
theorem lent_Mq {s : AS} {m m' : Array MapEntry × Nat} {n : Int} {q : Nat} (h : s.hp q = some (mpC m)) : Lent s (gM q) (hM m) (hM m') (s.mem q (mpC m')).hp (.i n) where
  has := fun r c hc => by obtain ⟨rfl, rfl⟩ := hM_at hc; rw [gM_self]; exact h
  inj := fun r r' h1 h2 _ => by rw [hM_pb r h1, hM_pb r' h2]
  stay := fun r hr => by rw [hM_pb r hr, hM_self]; rfl
  fresh := fun r hr hn => by rw [hM_pb r hr, hM_self] at hn; cases hn
  new := fun r c hc => by obtain ⟨rfl, rfl⟩ := hM_at hc; rw [gM_self]; simp [AS.mem]; rfl
  old := fun p hp => by
    have : p ≠ q := fun e => hp pbase (by rw [hM_self]; rfl) (by rw [gM_self, e])
    simp [AS.mem, this]
  ownI := fun r c hc => by obtain ⟨rfl, rfl⟩ := hM_at hc; exact ⟨rfl, rfl⟩
  ownO := fun r c hc => by obtain ⟨rfl, rfl⟩ := hM_at hc; rfl
  ownR := rfl
theorem mapOkV_nil (v : Nat → Nat) : MapOkV v #[] := fun e he => by simp at he
end Go.Am
namespace Go.Proofs.Ytbeflnnejofleaa
variable [Go.Am.CodeBlk]
open Go.Am
attribute [local irreducible] AW Outs Weak Lends Lend Sp aops atree aop1 Then Round InBlock Done
attribute [local irreducible] SpH SpX DoneH DoneX DoneHG
theorem kmq_ren (f : Nat → Nat) (F : List Int) (q : Nat) : renL f (kinV F ++ [.mp q]) = kinV F ++ [.mp (f q)] := by
  have hi : ∀ l : List Int, renL f (l.map AV.i) = l.map AV.i := by
    intro l
    induction l with
    | nil => simp [renL]
    | cons a l ih => simp [renL, renV, ih]
  rw [renL_appI]
  unfold kinV
  rw [renL, hi]
  simp [renL, renV]
theorem kmq_own (F : List Int) (q : Nat) (b : Bool) : ownL b (kinV F ++ [.mp q]) = true := by
  unfold kinV
  exact ownL_app b _ _ (by simp [ownL, ownV, ownL_i]) (by simp [ownL, ownV])
theorem kmq_refs (F : List Int) (q : Nat) (keep : Nat → Bool) (hk : keep q = true) : refsL keep (kinV F ++ [.mp q]) = true :=
  refsL_app _ _ _ (refsL_plain (kinV_plain F)) (by simp [refsL, refsV, hk])
theorem lendsH_kq (F : List Int) {m : Array MapEntry × Nat} {q : Nat} {hp : Hp} {T : Value} (h : hp q = some (mpC m)) : LendsH hp (gM q) (hM m) [.agg (kinV F ++ [.mp q]), .v T] [.agg (kmV F), .v T] := by
  have h1 := @lendsH_ren _ hp (gM q) (hM m) [.agg (kmV F), .v T] (fun r c hc => by obtain ⟨rfl, rfl⟩ := hM_at hc; rw [gM_self, h]; rfl)
    (by simp only [ownL, ownV, Bool.and_true]; exact kmq_own F pbase true) (by simp only [refsL, refsV, Bool.and_true]; exact kmq_refs F pbase _ (by rw [hM_self]; rfl))
  have e : renL (gM q) (kmV F) = kinV F ++ [.mp q] := by
    unfold kmV
    rw [kmq_ren, gM_self]
  simp only [renL, renV, e] at h1
  exact h1
theorem kinV_kill (r : Nat) (F : List Int) : killL r (kinV F) = kinV F := by
  unfold kinV
  rw [killL, killL_i, killV]
theorem givingsOf_spec (F : List Int) (h : IsFam F) : SpH Try.prog 31 [ints F] (fun _ => none) (.agg (kinV F ++ [.mp nbase])) hN := by
  have h9 := h.2.1
  have hkl := kinV_len h9
  have hst : Static (fun _ => none) (.agg (kinV F ++ [.mp nbase])) hN := ⟨fun r hr => (by cases hr), fun r c hc => (by obtain ⟨rfl, rfl⟩ := hN_at hc; exact ⟨rfl, rfl⟩), ⟨by simp only [ownV]; exact kmq_own F nbase false, by simp only [refsV]; exact kmq_refs F nbase _ (by rw [hN_self]; rfl)⟩⟩
  refine specHG_of (rvs := [.c 2 11]) Try.func31 rfl cc31 (by rfl) hst ?_
  unfold ac31
  repeat (first | (refine step_ops ?_; (first | (refine m_mov (by conv => lhs; whnf) ?_) | (refine m_alloc ?_))) | refine end_ops ?_ | refine seq_ops ?_)
  refine step_ops ?_; (apply m_call (kinOf_spec F h)); (· repeat (first | exact lends_nil | (refine lends_cons ?_ ?_; (· (refine lend_ints ?_; first | rfl | omega)))))
  refine step_ops ?_
  refine m_mmk ?_
  refine step_ops ?_
  refine m_bld (out := kinV F ++ [.mp 5]) ?_ ?_
  · refine .inr ⟨killL 5 (kinV F), rfl, by rw [kinV_kill]; exact hkl, by decide, ?_⟩
    rw [kinV_kill]
    refine .inl ⟨rfl, ?_, rfl, ?_⟩
    · simp [hkl]
    · show _ = List.set _ _ _
      rw [List.take_zero, List.nil_append, List.set_append_right _ _ (by omega), hkl]
      rfl
  refine weak_ops (weak_deep (r := 2) rfl (by simp) rfl) ?_
  refine step_ops ?_
  refine m_stall (l := kinV F ++ [.mp 5]) rfl rfl rfl (by simp [hkl]) rfl ?_ ?_
  · rw [List.all_append, kinV_ok]; rfl
  repeat (first | refine end_ops ?_ | refine AW_ret ?_)
  refine ret_donehg (gN 5) [.agg (kinV F ++ [.mp 5])] ⟨⟨2, 0, false, kinV F ++ [.mp 5], rfl, rfl, by simp [hkl], ?_⟩, trivial⟩ ?_ (fun r c hc => ?_) (fun r hr => by cases hr) (fun r hr _ => ?_) (fun r r' h1 h2 _ => ?_)
  · rw [List.drop_zero, List.take_of_length_le (by simp [hkl])]
  · show AV.agg _ = renV _ (.agg _)
    rw [renV, kmq_ren, gN_self]
  · obtain ⟨rfl, rfl⟩ := hN_at hc
    rw [gN_self]
    exact ⟨_, rfl, .inl rfl⟩
  · rw [hN_nb hr, gN_self]; decide
  · rw [hN_nb h1, hN_nb h2]
end Go.Proofs.Ytbeflnnejofleaa
namespace Go.Am
variable [Go.Am.CodeBlk]
theorem set_lt' {n S k : Nat} (hS : S < 2 ^ n) (hk : k < n) (h : S.testBit k = false) : S + 2 ^ k < 2 ^ n := by
  rw [bit_add h]
  exact Nat.or_lt_two_pow hS (by rw [Nat.one_shiftLeft]; exact Nat.pow_lt_pow_right (by decide) hk)
theorem out_le' (n S : Nat) : outN n S ≤ n := by
  unfold outN
  have := List.length_filter_le (fun i => !S.testBit i) (List.range n)
  rwa [List.length_range] at this
/-- May x give to i, where S have given? The ways behind. -/
def bhT (F : List Int) (rest : Nat → Nat) (i S x : Nat) : Nat := if S.testBit x = false ∧ F.getD i 0 ≠ F.getD x 0 then rest (S + 2 ^ x) else 0
def bhTo (F : List Int) (rest : Nat → Nat) (i S : Nat) : Nat → Nat
  | 0 => 0
  | x + 1 => bhTo F rest i S x + bhT F rest i S x
/-- The ways where u guests are to give yet. -/
def bhW (F : List Int) : Nat → Nat → Nat
  | 0, _ => 1
  | u + 1, S => bhTo F (bhW F u) (F.length - (u + 1)) S F.length
def bhN (F : List Int) (S : Nat) : Nat := bhW F (outN F.length S) S
theorem bhTo_congr {F : List Int} {r q : Nat → Nat} {i S : Nat} : ∀ k, (∀ x < k, S.testBit x = false → r (S + 2 ^ x) = q (S + 2 ^ x)) → bhTo F r i S k = bhTo F q i S k
  | 0, _ => rfl
  | k + 1, h => by
    have e : bhT F r i S k = bhT F q i S k := by
      unfold bhT
      by_cases hc : S.testBit k = false ∧ F.getD i 0 ≠ F.getD k 0
      · rw [if_pos hc, if_pos hc, h k (by omega) hc.1]
      · rw [if_neg hc, if_neg hc]
    rw [bhTo, bhTo, bhTo_congr k fun x hx hb => h x (by omega) hb, e]
theorem bhTo_le {F : List Int} {r : Nat → Nat} {i S b : Nat} (h : ∀ T, r T ≤ b) : ∀ k, bhTo F r i S k ≤ k * b
  | 0 => by simp [bhTo]
  | k + 1 => by
    have h1 : bhT F r i S k ≤ b := by
      unfold bhT
      split
      · exact h _
      · omega
    rw [bhTo, Nat.add_mul, Nat.one_mul]
    have h2 := bhTo_le (F := F) (i := i) (S := S) h k
    omega
theorem bhW_le (F : List Int) : ∀ u S, bhW F u S ≤ F.length ^ u
  | 0, _ => by simp [bhW]
  | u + 1, S => by
    rw [bhW, Nat.pow_succ, Nat.mul_comm]
    exact bhTo_le (bhW_le F u) _
theorem bhN_le {F : List Int} (h9 : F.length ≤ 9) (S : Nat) : bhN F S ≤ 387420489 := by
  unfold bhN
  exact Nat.le_trans (bhW_le F _ S) (Nat.le_trans (Nat.pow_le_pow_left h9 _) (Nat.le_trans (Nat.pow_le_pow_right (by decide) (Nat.le_trans (out_le' F.length S) h9)) (by decide)))
theorem bhN_full {F : List Int} {S : Nat} (h : ∀ i < F.length, S.testBit i = true) : bhN F S = 1 := by
  unfold bhN
  rw [out_full _ h, bhW]
theorem bhN_step {F : List Int} {S u : Nat} (h : outN F.length S = u + 1) : bhN F S = bhTo F (bhN F) (F.length - (u + 1)) S F.length := by
  unfold bhN
  rw [h, bhW]
  refine bhTo_congr _ fun x hx hb => ?_
  have := out_more hb F.length hx
  rw [show outN F.length (S + 2 ^ x) = u by omega]
/-- The sum of a row's numbers times what is told of their places. -/
def dotF (b : Nat → Nat) : List Nat → Nat → Nat
  | [], _ => 0
  | a :: A, o => a * b o + dotF b A (o + 1)
theorem dot_zero (b : Nat → Nat) : ∀ n o, dotF b (List.replicate n 0) o = 0
  | 0, _ => rfl
  | n + 1, o => by rw [List.replicate_succ, dotF, dot_zero b n]; simp
theorem dot_set (b : Nat → Nat) (m : Nat) : ∀ (A : List Nat) (p o : Nat), p < A.length → dotF b (A.set p (A.getD p 0 + m)) o = dotF b A o + m * b (o + p)
  | [], p, o, h => by simp at h
  | a :: A, 0, o, _ => by simp [dotF, Nat.add_mul]; omega
  | a :: A, p + 1, o, h => by
    have := dot_set b m A p (o + 1) (by simpa using h)
    simp only [List.set_cons_succ, dotF, List.getD_cons_succ]
    rw [this, show o + 1 + p = o + (p + 1) by omega]
    omega
theorem dot_one {b : Nat → Nat} : ∀ (A : List Nat) (o q : Nat), q < A.length → (∀ p < A.length, p ≠ q → A.getD p 0 = 0) → dotF b A o = A.getD q 0 * b (o + q)
  | [], _, q, h, _ => by simp at h
  | a :: A, o, 0, _, hz => by
    have h0 : dotF b A (o + 1) = 0 := by
      have : A = List.replicate A.length 0 := List.ext_getElem? fun i => by
        by_cases hi : i < A.length
        · have := hz (i + 1) (by simpa using hi) (by omega)
          simp [hi] at this ⊢
          exact this
        · simp [hi]
      rw [this, dot_zero]
    rw [dotF, h0]; simp
  | a :: A, o, q + 1, h, hz => by
    have h0 : a = 0 := by simpa using hz 0 (by simp) (by omega)
    have := dot_one (b := b) A (o + 1) q (by simpa using h) fun p hp hpq => by simpa using hz (p + 1) (by simpa using hp) (by omega)
    rw [dotF, this, h0, show o + 1 + q = o + (q + 1) by omega]
    simp
theorem dot_ge (A : List Nat) : ∀ (o p : Nat), A.getD p 0 ≤ dotF (fun _ => 1) A o := by
  induction A with
  | nil => intro o p; simp
  | cons a A ih =>
    intro o p
    cases p with
    | zero => simp [dotF]
    | succ p => have := ih (o + 1) p; simp only [List.getD_cons_succ, dotF]; omega
theorem dot_mono {b c : Nat → Nat} {m : Nat} : ∀ (A : List Nat) (o : Nat), (∀ p, b p ≤ m * c p) → dotF b A o ≤ m * dotF c A o
  | [], _, _ => by simp [dotF]
  | a :: A, o, h => by
    have h1 : a * b o ≤ a * (m * c o) := Nat.mul_le_mul_left _ (h o)
    have h2 := dot_mono A (o + 1) h
    have e : a * (m * c o) = m * (a * c o) := by rw [Nat.mul_left_comm]
    rw [dotF, dotF, Nat.mul_add]
    omega
theorem dot_snoc (b : Nat → Nat) : ∀ (A : List Nat) (a o : Nat), dotF b (A ++ [a]) o = dotF b A o + a * b (o + A.length)
  | [], a, o => by simp [dotF]
  | x :: A, a, o => by
    simp only [List.cons_append, dotF, dot_snoc b A a (o + 1), List.length_cons]
    rw [show o + 1 + A.length = o + (A.length + 1) by omega]
    omega
theorem dot_take (b : Nat → Nat) (A : List Nat) (k : Nat) (hk : k < A.length) : dotF b (A.take (k + 1)) 0 = dotF b (A.take k) 0 + A.getD k 0 * b k := by
  rw [take_snoc A k 0 hk, dot_snoc, List.length_take, Nat.min_eq_left (by omega), Nat.zero_add]
theorem dot_take_le (b : Nat → Nat) (A : List Nat) (k : Nat) : dotF b (A.take k) 0 ≤ dotF b A 0 := by
  have key : ∀ (A : List Nat) (k o : Nat), dotF b (A.take k) o ≤ dotF b A o := by
    intro A
    induction A with
    | nil => intro k o; simp [dotF]
    | cons a A ih =>
      intro k o
      cases k with
      | zero => simp [dotF]
      | succ k => have := ih k (o + 1); simp only [List.take_succ_cons, dotF]; omega
  exact key A k 0
/-- One set's ways handed on to the sets with one guest more: behind the first x guests. -/
def stepTo (F : List Int) (i m t : Nat) (acc : List Nat) : Nat → List Nat
  | 0 => acc
  | x + 1 => if t.testBit x = false ∧ F.getD x 0 ≠ F.getD i 0 then (stepTo F i m t acc x).set (t + 2 ^ x) ((stepTo F i m t acc x).getD (t + 2 ^ x) 0 + m) else stepTo F i m t acc x
/-- Behind the first t sets. -/
def sweep (F : List Int) (i : Nat) (W : List Nat) : Nat → List Nat
  | 0 => List.replicate (2 ^ F.length) 0
  | t + 1 => if W.getD t 0 = 0 then sweep F i W t else stepTo F i (W.getD t 0) t (sweep F i W t) F.length
/-- The set of some guests. -/
def setB : List Int → Nat
  | [] => 0
  | x :: B => setB B + 2 ^ x.toNat
/-- The row behind k steps from a set of so many. -/
def fwd (F : List Int) (S l : Nat) : Nat → List Nat
  | 0 => (List.replicate (2 ^ F.length) 0).set S 1
  | k + 1 => sweep F (l + k) (fwd F S l k) (2 ^ F.length)
theorem stepTo_len (F : List Int) (i m t : Nat) (acc : List Nat) (x : Nat) : (stepTo F i m t acc x).length = acc.length := by
  induction x with
  | zero => rfl
  | succ x ih =>
    rw [stepTo]
    split
    · rw [List.length_set, ih]
    · exact ih
theorem sweep_len (F : List Int) (i : Nat) (W : List Nat) (t : Nat) : (sweep F i W t).length = 2 ^ F.length := by
  induction t with
  | zero => simp [sweep]
  | succ t ih =>
    rw [sweep]
    split
    · exact ih
    · rw [stepTo_len, ih]
theorem fwd_len (F : List Int) (S l k : Nat) : (fwd F S l k).length = 2 ^ F.length := by
  cases k with
  | zero => simp [fwd]
  | succ k => exact sweep_len ..
theorem stepTo_dot (F : List Int) (b : Nat → Nat) (i m t : Nat) (ht : t < 2 ^ F.length) (acc : List Nat) (ha : acc.length = 2 ^ F.length) : ∀ x, x ≤ F.length → dotF b (stepTo F i m t acc x) 0 = dotF b acc 0 + m * bhTo F b i t x
  | 0, _ => by simp [stepTo, bhTo]
  | x + 1, hx => by
    have ih := stepTo_dot F b i m t ht acc ha x (by omega)
    rw [stepTo, bhTo, Nat.mul_add]
    unfold bhT
    by_cases hc : t.testBit x = false ∧ F.getD x 0 ≠ F.getD i 0
    · rw [if_pos hc, if_pos ⟨hc.1, fun e => hc.2 e.symm⟩, dot_set _ _ _ _ _ (by rw [stepTo_len, ha]; exact set_lt' ht (by omega) hc.1), ih, Nat.zero_add]
      omega
    · rw [if_neg hc, if_neg fun h => hc ⟨h.1, fun e => h.2 e.symm⟩, ih]
      simp
theorem sweep_dot (F : List Int) (b : Nat → Nat) (i : Nat) (W : List Nat) (hW : W.length = 2 ^ F.length) : ∀ t, t ≤ 2 ^ F.length → dotF b (sweep F i W t) 0 = dotF (fun t => bhTo F b i t F.length) (W.take t) 0
  | 0, _ => by simp [sweep, dot_zero, dotF]
  | t + 1, ht => by
    have ih := sweep_dot F b i W hW t (by omega)
    rw [dot_take _ _ _ (by omega), sweep]
    by_cases h0 : W.getD t 0 = 0
    · rw [if_pos h0, ih, h0]; simp
    · rw [if_neg h0, stepTo_dot F b i _ t (by omega) _ (sweep_len ..) _ (Nat.le_refl _), ih]
theorem fwd_dot (F : List Int) (S l : Nat) (hS : S < 2 ^ F.length) (_hl : l ≤ F.length) : ∀ k, l + k ≤ F.length → dotF (bhW F (F.length - (l + k))) (fwd F S l k) 0 = bhW F (F.length - l) S
  | 0, _ => by
    have h := dot_set (bhW F (F.length - l)) 1 (List.replicate (2 ^ F.length) 0) S 0 (by simpa using hS)
    rw [dot_zero] at h
    simp only [Nat.add_zero, fwd]
    have e : (List.replicate (2 ^ F.length) 0).getD S 0 + 1 = 1 := by simp [hS]
    rw [e] at h
    rw [h]; simp
  | k + 1, hk => by
    have ih := fwd_dot F S l hS _hl k (by omega)
    rw [fwd, sweep_dot F _ _ _ (fwd_len ..) _ (Nat.le_refl _), List.take_of_length_le (by rw [fwd_len]; exact Nat.le_refl _), ← ih]
    congr 1
    funext t
    rw [show F.length - (l + k) = (F.length - (l + (k + 1))) + 1 by omega, bhW, show F.length - ((F.length - (l + (k + 1))) + 1) = l + k by omega]
/-- All sets that are reached have so many. -/
def Sup (n c : Nat) (A : List Nat) : Prop := ∀ T < A.length, A.getD T 0 ≠ 0 → outN n T = c
theorem getD_setN (l : List Nat) (n i a : Nat) : (l.set n a).getD i 0 = if n = i ∧ i < l.length then a else l.getD i 0 := by
  rw [List.getD_eq_getElem?_getD, List.getD_eq_getElem?_getD, List.getElem?_set]
  by_cases e : n = i
  · subst e
    by_cases h : n < l.length <;> simp [h]
  · simp [e]
theorem stepTo_sup {F : List Int} {i m t c : Nat} (hc : outN F.length t = c + 1) {acc : List Nat} (ha : Sup F.length c acc) (hl : acc.length = 2 ^ F.length) : ∀ x, x ≤ F.length → Sup F.length c (stepTo F i m t acc x)
  | 0, _ => ha
  | x + 1, hx => by
    have ih := stepTo_sup (i := i) (m := m) hc ha hl x (by omega)
    rw [stepTo]
    split
    · rename_i hb
      intro T hT hn
      rw [getD_setN] at hn
      by_cases e : t + 2 ^ x = T
      · subst e
        have := out_more hb.1 F.length (by omega)
        omega
      · rw [if_neg fun h => e h.1] at hn
        exact ih T (by simpa using hT) hn
    · exact ih
theorem sweep_sup {F : List Int} {i c : Nat} {W : List Nat} (hW : Sup F.length (c + 1) W) (hl : W.length = 2 ^ F.length) : ∀ t, t ≤ 2 ^ F.length → Sup F.length c (sweep F i W t)
  | 0, _ => by
    intro T hT hn
    rw [sweep] at hT hn
    have : (List.replicate (2 ^ F.length) 0).getD T 0 = 0 := by
      rw [List.getD_eq_getElem?_getD, List.getElem?_replicate]
      split <;> rfl
    exact absurd this hn
  | t + 1, ht => by
    have ih := sweep_sup (i := i) hW hl t (by omega)
    rw [sweep]
    split
    · exact ih
    · rename_i h0
      exact stepTo_sup (hW t (by omega) h0) ih (sweep_len ..) _ (Nat.le_refl _)
theorem fwd_sup {F : List Int} {S l : Nat} (hl : outN F.length S + l = F.length) : ∀ k, l + k ≤ F.length → Sup F.length (F.length - (l + k)) (fwd F S l k)
  | 0, _ => by
    intro T hT hn
    rw [fwd, getD_setN] at hn
    by_cases e : S = T
    · subst e; omega
    · rw [if_neg fun h => e h.1] at hn
      have : (List.replicate (2 ^ F.length) 0).getD T 0 = 0 := by
        rw [List.getD_eq_getElem?_getD, List.getElem?_replicate]
        split <;> rfl
      exact absurd this hn
  | k + 1, hk => by
    have ih := fwd_sup hl k (by omega)
    rw [show F.length - (l + k) = (F.length - (l + (k + 1))) + 1 by omega] at ih
    rw [fwd]
    exact sweep_sup ih (fwd_len ..) _ (Nat.le_refl _)
theorem full_set {n T : Nat} (hT : T < 2 ^ n) (h : outN n T = 0) : T = 2 ^ n - 1 := by
  have hb := out_zero n h
  refine Nat.eq_of_testBit_eq fun i => ?_
  rw [Nat.testBit_two_pow_sub_one]
  by_cases hi : i < n
  · rw [hb i hi, decide_eq_true hi]
  · rw [decide_eq_false hi]
    exact Nat.testBit_lt_two_pow (Nat.lt_of_lt_of_le hT (Nat.pow_le_pow_right (by decide) (by omega)))
/-- What the forward count tells. -/
theorem fwd_end {F : List Int} {S l : Nat} (hS : S < 2 ^ F.length) (hl : outN F.length S + l = F.length) : (fwd F S l (F.length - l)).getD (2 ^ F.length - 1) 0 = bhN F S := by
  have h1 := fwd_dot F S l hS (by omega) (F.length - l) (by omega)
  have h2 := fwd_sup hl (F.length - l) (by omega)
  have hlen := fwd_len F S l (F.length - l)
  have hpos : 0 < 2 ^ F.length := Nat.two_pow_pos _
  rw [show F.length - (l + (F.length - l)) = 0 by omega] at h1 h2
  have h3 := dot_one (b := bhW F 0) (fwd F S l (F.length - l)) 0 (2 ^ F.length - 1) (by omega) fun p hp hne => by
    by_cases h0 : (fwd F S l (F.length - l)).getD p 0 = 0
    · exact h0
    · exact absurd (full_set (by omega) (h2 p hp h0)) hne
  rw [h3] at h1
  rw [bhW, Nat.mul_one] at h1
  rw [h1, bhN, show outN F.length S = F.length - l by omega]
/-- No number is too great. -/
def tot1 (A : List Nat) : Nat := dotF (fun _ => 1) A 0
theorem sweep_tot {F : List Int} (h9 : F.length ≤ 9) {i : Nat} {W : List Nat} (hW : W.length = 2 ^ F.length) {t : Nat} (ht : t ≤ 2 ^ F.length) : tot1 (sweep F i W t) ≤ 9 * tot1 W := by
  unfold tot1
  rw [sweep_dot F _ i W hW t ht]
  refine Nat.le_trans (dot_mono (m := 9) (c := fun _ => 1) _ 0 fun p => ?_) (Nat.mul_le_mul_left _ (dot_take_le _ _ _))
  have := bhTo_le (F := F) (r := fun _ => 1) (i := i) (S := p) (b := 1) (fun _ => Nat.le_refl _) F.length
  omega
theorem fwd_tot {F : List Int} (h9 : F.length ≤ 9) (S l : Nat) (hS : S < 2 ^ F.length) : ∀ k, tot1 (fwd F S l k) ≤ 9 ^ k
  | 0 => by
    have h := dot_set (fun _ => 1) 1 (List.replicate (2 ^ F.length) 0) S 0 (by simpa using hS)
    rw [dot_zero] at h
    have e : (List.replicate (2 ^ F.length) 0).getD S 0 + 1 = 1 := by simp [hS]
    rw [e] at h
    unfold tot1
    rw [fwd, h]; simp
  | k + 1 => by
    have ih := fwd_tot h9 S l hS k
    rw [fwd, Nat.pow_succ, Nat.mul_comm]
    exact Nat.le_trans (sweep_tot h9 (fwd_len ..) (Nat.le_refl _)) (Nat.mul_le_mul_left _ ih)
theorem stepTo_tot {F : List Int} (h9 : F.length ≤ 9) {i m t : Nat} (ht : t < 2 ^ F.length) {acc : List Nat} (ha : acc.length = 2 ^ F.length) {x : Nat} (hx : x ≤ F.length) : tot1 (stepTo F i m t acc x) ≤ tot1 acc + m * 9 := by
  unfold tot1
  rw [stepTo_dot F _ i m t ht acc ha x hx]
  have := bhTo_le (F := F) (r := fun _ => 1) (i := i) (S := t) (b := 1) (fun _ => Nat.le_refl _) x
  have h2 : m * bhTo F (fun _ => 1) i t x ≤ m * 9 := Nat.mul_le_mul_left _ (by omega)
  omega
theorem tot_ge (A : List Nat) (p : Nat) : A.getD p 0 ≤ tot1 A := dot_ge A 0 p
end Go.Am
namespace Go.Am
variable [Go.Am.CodeBlk]
/-- The bits of a byte, counted. -/
def popB : ByteArray := ⟨#[0, 1, 1, 2, 1, 2, 2, 3, 1, 2, 2, 3, 2, 3, 3, 4, 1, 2, 2, 3, 2, 3, 3, 4, 2, 3, 3, 4, 3, 4, 4, 5, 1, 2, 2, 3, 2, 3, 3, 4, 2, 3, 3, 4, 3, 4, 4, 5, 2, 3, 3, 4, 3, 4, 4, 5, 3, 4, 4, 5, 4, 5, 5, 6, 1, 2, 2, 3, 2, 3, 3, 4, 2, 3, 3, 4, 3, 4, 4, 5, 2, 3, 3, 4, 3, 4, 4, 5, 3, 4, 4, 5, 4, 5, 5, 6, 2, 3, 3, 4, 3, 4, 4, 5, 3, 4, 4, 5, 4, 5, 5, 6, 3, 4, 4, 5, 4, 5, 5, 6, 4, 5, 5, 6, 5, 6, 6, 7, 1, 2, 2, 3, 2, 3, 3, 4, 2, 3, 3, 4, 3, 4, 4, 5, 2, 3, 3, 4, 3, 4, 4, 5, 3, 4, 4, 5, 4, 5, 5, 6, 2, 3, 3, 4, 3, 4, 4, 5, 3, 4, 4, 5, 4, 5, 5, 6, 3, 4, 4, 5, 4, 5, 5, 6, 4, 5, 5, 6, 5, 6, 6, 7, 2, 3, 3, 4, 3, 4, 4, 5, 3, 4, 4, 5, 4, 5, 5, 6, 3, 4, 4, 5, 4, 5, 5, 6, 4, 5, 5, 6, 5, 6, 6, 7, 3, 4, 4, 5, 4, 5, 5, 6, 4, 5, 5, 6, 5, 6, 6, 7, 4, 5, 5, 6, 5, 6, 6, 7, 5, 6, 6, 7, 6, 7, 7, 8]⟩
theorem popB_get : ∀ n < 10, ∀ S < 2 ^ n, (popB.data.toList.getD (S >>> 8) 0).toNat + (popB.data.toList.getD (S &&& 255) 0).toNat = n - outN n S := by decide +kernel
theorem popB_at {j : Nat} (h : j < popB.size) : (popB[j]'h).toNat = (popB.data.toList.getD j 0).toNat := by
  have h2 : j < popB.data.toList.length := h
  rw [List.getD_eq_getElem?_getD, List.getElem?_eq_getElem h2]
  rfl
theorem popB_size : popB.size = 256 := by decide +kernel
theorem popB_le : ∀ j < 256, (popB.data.toList.getD j 0).toNat ≤ 8 := by decide +kernel
section
variable {P : Program} {own : Bool} {s : AS} {K : AS → Prop} {d : Option Nat} {x y : Opd}
theorem m_sixu {b : ByteArray} {j : Nat} {q : IntKind} (hx : s.ev x = .v (.string b)) (hj : s.ev y = .v (.int q (j : Nat))) (h : j < b.size) (k : K (s.put d (.v (.int .u8 (b[j]'h).toNat)))) : aop1 P own ⟨d, .pu .six [x, y], none⟩ s K :=
  ⟨_, ⟨b, q, j, by simp [hx, hj], by omega, by simpa using h, by simp⟩, k⟩
theorem m_addk {q : IntKind} {a b c : Int} (hx : s.ev x = .v (.int q a)) (hy : s.ev y = .v (.int q b)) (hc : q.wrap (a + b) = c) (k : K (s.put d (.v (.int q c)))) : aop1 P own ⟨d, .bin .add x y, none⟩ s K := ⟨_, _, .int q c, hx, hy, by simp [pbin, hc], k⟩
theorem m_shr8 {a : Nat} (hx : s.ev x = .u a) (hy : s.ev y = .v (.int .u64 8)) (kk : K (s.put d (.u (a >>> 8)))) : aop1 P own ⟨d, .bin .shr x y, none⟩ s K := by
  refine ⟨_, _, _, hx, hy, ?_, kk⟩
  show (if (8 : Int) < 0 then none else some (Value.int .u16 ((a : Int).fdiv (2 ^ (min (8 : Int).toNat IntKind.u16.bits))))) = _
  rw [if_neg (by decide), show min (8 : Int).toNat IntKind.u16.bits = 8 from rfl, Nat.shiftRight_eq_div_pow]
  congr 2
  rw [Int.fdiv_eq_ediv_of_nonneg _ (by decide), show (2 : Int) ^ 8 = 256 from rfl, show (2 : Nat) ^ 8 = 256 from rfl]
  omega
theorem m_cvtk {q k : IntKind} {n c : Int} (hx : s.ev x = .v (.int q n)) (hc : k.wrap n = c) (kk : K (s.put d (.v (.int k c)))) : aop1 P own ⟨d, .pu (.cvt k) [x], none⟩ s K := ⟨_, ⟨q, n, by simp [hx], by rw [hc]⟩, kk⟩
end
end Go.Am
namespace Go.Proofs.Ytbeflnnejofleaa
variable [Go.Am.CodeBlk]
open Go.Am
attribute [local irreducible] AW Outs Weak Lends Lend Sp aops atree aop1 Then Round InBlock Done
attribute [local irreducible] SpH SpX DoneH DoneX DoneHG
theorem ones_spec (n S : Nat) (hn : n ≤ 9) (hS : S < 2 ^ n) : Sp Try.prog 70 [.u S] (.i (n - outN n S : Nat)) := by
  have hS2 : S < 512 := Nat.lt_of_lt_of_le hS (Nat.pow_le_pow_right (by decide) hn)
  have h1 : S >>> 8 < popB.size := by rw [popB_size, Nat.shiftRight_eq_div_pow]; omega
  have h2 : S &&& 255 < popB.size := by rw [popB_size]; exact Nat.lt_of_le_of_lt Nat.and_le_right (by decide)
  have hg := popB_get n (by omega) S hS
  have e1 := popB_at h1
  have e2 := popB_at h2
  rw [popB_size] at h1 h2
  have l1 := popB_le _ h1
  have l2 := popB_le _ h2
  rw [← popB_size] at h1 h2
  rw [← e1, ← e2] at hg
  rw [← e1] at l1
  rw [← e2] at l2
  rw [← hg]
  refine spec_of Try.func70 rfl cc70 rfl ?_
  unfold ac70
  repeat (first | ((first | refine step_ops ?_ | refine step_tree ?_); (refine m_mov (by conv => lhs; whnf) ?_)) | refine end_ops ?_ | refine seq_ops ?_ | refine seq_tree ?_)
  refine step_tree ?_
  refine m_shr8 (a := S) rfl rfl ?_
  refine step_tree ?_
  refine m_sixu (b := popB) (j := S >>> 8) (q := .u16) rfl rfl h1 ?_
  repeat (refine step_tree ?_; (refine m_mov (by conv => lhs; whnf) ?_))
  refine step_tree ?_
  refine m_and16 (a := S) (b := 255) rfl rfl (by omega) (by decide) ?_
  refine step_tree ?_
  refine m_sixu (b := popB) (j := S &&& 255) (q := .u16) rfl rfl h2 ?_
  generalize ((popB[S >>> 8]'h1).toNat) = p at *
  generalize ((popB[S &&& 255]'h2).toNat) = q at *
  have w1 : IntKind.u8.wrap ((p : Int) + (q : Int)) = ((p + q : Nat) : Int) := by
    have : IntKind.u8.wrap ((p : Int) + (q : Int)) = ((p : Int) + (q : Int)) % 256 := by simp [IntKind.wrap, IntKind.bits, IntKind.signed]
    omega
  have w2 : IntKind.i64.wrap ((p + q : Nat) : Int) = ((p + q : Nat) : Int) := by rw [IntKind.wrap_i64]; omega
  refine step_tree ?_
  refine m_addk rfl rfl w1 ?_
  refine step_tree ?_
  refine m_cvtk rfl w2 ?_
  repeat (first | (refine step_tree ?_; (refine m_mov (by conv => lhs; whnf) ?_)) | refine end_tree ?_ | refine AW_ret ?_ | refine ret_done ?_)
  exact outs_i rfl
theorem size_spec (n S : Nat) (hn : n ≤ 9) (hS : S < 2 ^ n) : Sp Try.prog 57 [.u S] (.i (n - outN n S : Nat)) := by
  refine spec_of Try.func57 rfl cc57 rfl ?_
  unfold ac57
  repeat (first | (refine step_ops ?_; (refine m_mov (by conv => lhs; whnf) ?_)) | refine end_ops ?_ | refine seq_ops ?_)
  (refine step_ops ?_); (apply m_call (ones_spec n S hn hS)); (· repeat (first | exact lends_nil | (refine lends_cons ?_ ?_; (· exact lend_v))))
  repeat (first | (refine step_ops ?_; (refine m_mov (by conv => lhs; whnf) ?_)) | refine end_ops ?_ | refine AW_ret ?_ | refine ret_done ?_)
  exact outs_i rfl
end Go.Proofs.Ytbeflnnejofleaa
