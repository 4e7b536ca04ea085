/- The abstract machine, part eighteen: matrices handed out, taken in, read and lent. -/
import Derived.Test.YtojpcpdbnmnknaaAmQ
namespace Go.Am
variable {P : Program} {own : Bool} {N : Nat} {s : AS} {K : AS → Prop} {d : Option Nat}

def nbase : Nat := 8000000
/-- A matrix as regions: the outer slice in r0, its rows in b, b + 1, .. -/
def matH (r0 b : Nat) (rows : List (List Int)) : Hp := famH (fun r => if r = r0 then some (false, rowsC b rows) else none) b rows
theorem matH_some {r0 b r : Nat} {rows : List (List Int)} {c : Bool × List AV} (h : matH r0 b rows r = some c) : (r = r0 ∧ c = (false, rowsC b rows)) ∨ ∃ j, j < rows.length ∧ r = b + j ∧ c = (true, (rows.getD j []).map AV.i) := by
  rcases famH_some h with h1 | ⟨_, h1⟩
  · split at h1
    · rename_i e; cases h1; exact .inl ⟨e, rfl⟩
    · cases h1
  · exact .inr h1
theorem matH_outer (r0 b : Nat) (rows : List (List Int)) : matH r0 b rows r0 = some (false, rowsC b rows) := by simp [matH, famH]
theorem matH_row {r0 b : Nat} {rows : List (List Int)} {j : Nat} (h : r0 < b) (hj : j < rows.length) : matH r0 b rows (b + j) = some (true, (rows.getD j []).map AV.i) :=
  famH_row (by have : ¬ b + j = r0 := by omega
               simp [this]) hj
theorem renL_ints (f : Nat → Nat) (l : List Int) : renL f (l.map AV.i) = l.map AV.i := by
  induction l with
  | nil => rfl
  | cons x l ih => simp only [List.map_cons, renL, renV, ih]
theorem ownL_ints (q : Bool) (l : List Int) : ownL q (l.map AV.i) = true := by
  induction l with
  | nil => rfl
  | cons x l ih => simp only [List.map_cons, ownL, ownV, ih, Bool.and_self]
theorem refsL_ints (keep : Nat → Bool) (l : List Int) : refsL keep (l.map AV.i) = true := by
  induction l with
  | nil => rfl
  | cons x l ih => simp only [List.map_cons, refsL, refsV, ih, Bool.and_self]
theorem matH_own {r0 b : Nat} {rows : List (List Int)} (h : r0 < b) (r : Nat) (c : Bool × List AV) (hc : matH r0 b rows r = some c) : ownL false c.2 = true ∧ refsL (fun r => (matH r0 b rows r).isSome) c.2 = true := by
  rcases matH_some hc with ⟨rfl, rfl⟩ | ⟨j, hj, rfl, rfl⟩
  · exact ⟨rowsC_own _ _ _, rowsC_refs _ _ _ fun j hj => by rw [matH_row h hj]; rfl⟩
  · exact ⟨ownL_ints _ _, refsL_ints _ _⟩

/-- The names of a matrix handed out. -/
def gnm (q b : Nat) : Nat → Nat := fun r => if r = nbase then q else b + (r - (nbase + 1))
theorem gnm_outer (q b : Nat) : gnm q b nbase = q := if_pos rfl
theorem gnm_row (q b j : Nat) : gnm q b (nbase + 1 + j) = b + j := by
  unfold gnm
  rw [if_neg (by omega), Nat.add_sub_cancel_left]
theorem gnm_inj {q b : Nat} (hq : q < b) {rows : List (List Int)} {r r' : Nat} (h1 : (matH nbase (nbase + 1) rows r).isSome = true) (h2 : (matH nbase (nbase + 1) rows r').isSome = true) (e : gnm q b r = gnm q b r') : r = r' := by
  obtain ⟨c, hc⟩ := Option.isSome_iff_exists.1 h1
  obtain ⟨c', hc'⟩ := Option.isSome_iff_exists.1 h2
  rcases matH_some hc with ⟨rfl, _⟩ | ⟨j, hj, rfl, _⟩
  · rcases matH_some hc' with ⟨rfl, _⟩ | ⟨j', hj', rfl, _⟩
    · rfl
    · rw [gnm_outer, gnm_row] at e; omega
  · rcases matH_some hc' with ⟨rfl, _⟩ | ⟨j', hj', rfl, _⟩
    · rw [gnm_outer, gnm_row] at e; omega
    · rw [gnm_row, gnm_row] at e; omega
theorem gnm_cells (q b : Nat) (rows : List (List Int)) : renL (gnm q b) (rowsC (nbase + 1) rows) = rowsC b rows := rowsC_ren _ _ _ _ fun j _ => gnm_row q b j
theorem gnm_hp {q b : Nat} {rows : List (List Int)} {hp : Hp} (h0 : hp q = some (false, rowsC b rows)) (hr : ∀ j, j < rows.length → hp (b + j) = some (true, (rows.getD j []).map AV.i)) (r : Nat) (c : Bool × List AV) (hc : matH nbase (nbase + 1) rows r = some c) :
    hp (gnm q b r) = some (renR (gnm q b) c) := by
  rcases matH_some hc with ⟨rfl, rfl⟩ | ⟨j, hj, rfl, rfl⟩
  · rw [gnm_outer, h0]
    simp only [renR]
    rw [gnm_cells]
  · rw [gnm_row, hr j hj]
    simp only [renR]
    rw [renL_ints]

abbrev matO (rows : List (List Int)) : Hp := matH nbase (nbase + 1) rows
theorem static_mat1 (rows : List (List Int)) : Static (fun _ => none) (.sl nbase 1 0 rows.length) (matO rows) :=
  ⟨fun r h => by simp at h, matH_own (by omega), by simp [ownV], by simp [refsV, matO, matH_outer]⟩
theorem static_mat2 (rows : List (List Int)) (x : Value) : Static (fun _ => none) (.tup [.sl nbase 1 0 rows.length, .v x]) (matO rows) :=
  ⟨fun r h => by simp at h, matH_own (by omega), by simp [ownV, ownL], by simp [refsV, refsL, matO, matH_outer]⟩

/-- A matrix is handed out. -/
theorem ret_mat {r0 b : Nat} {rows : List (List Int)} {ts : List Nat} {res : AV} (hr0 : r0 < b) (hpb : r0 < pbase) (hb : b + rows.length ≤ pbase)
    (h1 : resAV s ts = renV (gnm r0 b) res) (h0 : s.hp r0 = some (false, rowsC b rows)) (hrow : ∀ j, j < rows.length → s.hp (b + j) = some (true, (rows.getD j []).map AV.i)) : DoneH ts res (fun _ => none) (matO rows) .ret s := by
  refine ret_doneh (gnm r0 b) h1 (fun r c hc => ⟨_, gnm_hp h0 hrow r c hc, .inl rfl⟩) (fun r hr => by simp at hr) (fun r hr _ => ?_) fun r r' h2 h3 e => gnm_inj hr0 h2 h3 e
  obtain ⟨c, hc⟩ := Option.isSome_iff_exists.1 hr
  rcases matH_some hc with ⟨rfl, _⟩ | ⟨j, hj, rfl, _⟩
  · rw [gnm_outer]; exact hpb
  · rw [gnm_row]; omega
/-- An empty one. -/
theorem ret_mat0 {r0 : Nat} {fl : Bool} {ts : List Nat} {res : AV} (hpb : r0 < pbase) (h1 : resAV s ts = renV (gnm r0 (r0 + 1)) res) (h0 : s.hp r0 = some (fl, [])) : DoneH ts res (fun _ => none) (matO []) .ret s := by
  refine ret_doneh (gnm r0 (r0 + 1)) h1 (fun r c hc => ?_) (fun r hr => by simp at hr) (fun r hr _ => ?_) fun r r' h2 h3 e => gnm_inj (by omega) h2 h3 e
  · rcases matH_some hc with ⟨rfl, rfl⟩ | ⟨j, hj, _⟩
    · exact ⟨_, by rw [gnm_outer]; exact h0, .inr ⟨rfl, rfl⟩⟩
    · simp at hj
  · obtain ⟨c, hc⟩ := Option.isSome_iff_exists.1 hr
    rcases matH_some hc with ⟨rfl, _⟩ | ⟨j, hj, _⟩
    · rw [gnm_outer]; exact hpb
    · simp at hj

/-- A matrix comes in: its outer slice is region q, its rows are b, b + 1, .. -/
def AS.addM (s : AS) (q b : Nat) (rows : List (List Int)) : AS := ⟨s.tm, famH (fun r => if r = q then some (false, rowsC b rows) else s.hp r) b rows⟩
theorem addM_row {s : AS} {q b : Nat} {rows : List (List Int)} {j : Nat} (hq : q < b) (hn : s.hp (b + j) = none) (hj : j < rows.length) : (s.addM q b rows).hp (b + j) = some (true, (rows.getD j []).map AV.i) :=
  famH_row (h := fun r => if r = q then some (false, rowsC b rows) else s.hp r) (by
    show (if b + j = q then some (false, rowsC b rows) else s.hp (b + j)) = none
    rw [if_neg (by omega)]; exact hn) hj
/-- The rows are written. -/
def AS.setM (s : AS) (b : Nat) (rows : List (List Int)) : AS := ⟨s.tm, fun r => if b ≤ r ∧ r < b + rows.length then some (true, (rows.getD (r - b) []).map AV.i) else s.hp r⟩
theorem setM_row {s : AS} {b : Nat} {rows : List (List Int)} {j : Nat} (hj : j < rows.length) : (s.setM b rows).hp (b + j) = some (true, (rows.getD j []).map AV.i) := by
  unfold AS.setM
  simp only
  rw [if_pos ⟨by omega, by omega⟩, Nat.add_sub_cancel_left]
/-- A call that hands out a matrix: its outer slice is taken as region q, its rows as b, b + 1, .. -/
theorem m_callM {f : FuncId} {args : List Opd} {as : List AV} {rows : List (List Int)} {res : AV} (q b : Nat) (hs : SpH P f as (fun _ => none) res (matO rows)) (hl : Lends s.hp (args.map s.ev) as) (hor : ownV false res = true) (hqb : q < b) (hqp : q < pbase) (hb : b + rows.length ≤ pbase)
    (hq : s.hp q = none) (hrow : ∀ j, j < rows.length → s.hp (b + j) = none)
    (k : K (AS.put (s.addM q b rows) d (renV (gnm q b) res))) : aop1 P true ⟨d, .call f args, none⟩ s K := by
  refine m_callh (gnm q b) hs (lendsH_none hl) ⟨fun r c h => by simp at h, fun r r' h1 h2 e => gnm_inj hqb h1 h2 e, fun r h => by simp at h, fun r hr _ => ?_, gnm_hp ?_ fun j hj => ?_, fun p hp => ?_, fun r c h => by simp at h, fun r c hc => (matH_own (by omega) r c hc).1, hor⟩ k
  · obtain ⟨c, hc⟩ := Option.isSome_iff_exists.1 hr
    rcases matH_some hc with ⟨rfl, _⟩ | ⟨j, hj, rfl, _⟩
    · rw [gnm_outer]; exact ⟨hq, hqp⟩
    · rw [gnm_row]; exact ⟨hrow j hj, by omega⟩
  · simp [famH]
  · exact famH_row (by have : ¬ b + j = q := by omega
                       simp only [this, if_false]; exact hrow j hj) hj
  · have h1 : p ≠ q := fun e => hp nbase (by rw [matO, matH_outer]; rfl) (by rw [gnm_outer]; exact e.symm)
    unfold famH
    simp only [h1, if_false]
    cases hh : s.hp p with
    | some c => rfl
    | none =>
      simp only
      rw [if_neg]
      rintro ⟨h2, h3⟩
      refine hp (nbase + 1 + (p - b)) ?_ ?_
      · rw [matO, matH_row (by omega) (by omega)]; rfl
      · rw [gnm_row]; omega

mutual
theorem renV_id : ∀ x : AV, renV id x = x
  | .any => rfl
  | .v _ => rfl
  | .ro _ _ _ _ => rfl
  | .rp _ => rfl
  | .sl _ _ _ _ => rfl
  | .pt _ _ => rfl
  | .mp _ => rfl
  | .itr _ => rfl
  | .ob _ => rfl
  | .fn _ l _ => by simp only [renV, renL_id l]
  | .rmp _ _ _ => rfl
  | .fu _ _ _ => rfl
  | .mit _ m _ _ _ => by cases m <;> rfl
  | .agg l => by simp only [renV, renL_id l]
  | .tup l => by simp only [renV, renL_id l]
theorem renL_id : ∀ l : List AV, renL id l = l
  | [] => rfl
  | a :: l => by simp only [renL, renV_id a, renL_id l]
end
abbrev matL (rows : List (List Int)) : Hp := matH pbase (pbase + 1) rows
theorem static_matL (rows0 rows : List (List Int)) (x : Value) : Static (matL rows0) (.v x) (matL rows) := by
  refine ⟨fun r h => ?_, matH_own (by omega), by simp [ownV], by simp [refsV]⟩
  obtain ⟨c, hc⟩ := Option.isSome_iff_exists.1 h
  rcases matH_some hc with ⟨rfl, _⟩ | ⟨j, _, rfl, _⟩ <;> omega
/-- A matrix that was lent goes back. -/
theorem ret_matL {rows0 rows : List (List Int)} {ts : List Nat} {x : Value} (hn : rows.length = rows0.length) (h1 : resAV s ts = .v x) (h0 : s.hp pbase = some (false, rowsC (pbase + 1) rows)) (hrow : ∀ j, j < rows.length → s.hp (pbase + 1 + j) = some (true, (rows.getD j []).map AV.i)) :
    DoneH ts (.v x) (matL rows0) (matL rows) .ret s := by
  have hlv : ∀ r, (matL rows0 r).isSome = true → (matL rows r).isSome = true := by
    intro r hr
    obtain ⟨c, hc⟩ := Option.isSome_iff_exists.1 hr
    rcases matH_some hc with ⟨rfl, _⟩ | ⟨j, hj, rfl, _⟩
    · rw [matL, matH_outer]; rfl
    · rw [matL, matH_row (by omega) (by omega)]; rfl
  have hlv2 : ∀ r, (matL rows r).isSome = true → ¬ matL rows0 r = none := by
    intro r hr
    obtain ⟨c, hc⟩ := Option.isSome_iff_exists.1 hr
    rcases matH_some hc with ⟨rfl, _⟩ | ⟨j, hj, rfl, _⟩
    · rw [matL, matH_outer]; simp
    · rw [matL, matH_row (by omega) (by omega)]; simp
  refine ret_doneh id h1 (fun r c hc => ⟨c, ?_, .inl ?_⟩) (fun r hr => ⟨rfl, hlv r hr⟩) (fun r hr h2 => absurd h2 (hlv2 r hr)) fun r r' _ _ e => e
  · rcases matH_some hc with ⟨rfl, rfl⟩ | ⟨j, hj, rfl, rfl⟩
    · exact h0
    · exact hrow j hj
  · simp only [renR, renL_id]
/-- The names of a matrix that is lent. -/
def lnm (q b : Nat) : Nat → Nat := fun r => if r = pbase then q else b + (r - (pbase + 1))
theorem lnm_outer (q b : Nat) : lnm q b pbase = q := if_pos rfl
theorem lnm_row (q b j : Nat) : lnm q b (pbase + 1 + j) = b + j := by
  unfold lnm
  rw [if_neg (by omega), Nat.add_sub_cancel_left]
/-- A call that is lent a matrix and writes its rows. -/
theorem m_callL {f : FuncId} {args : List Opd} {as : List AV} {rows rows' : List (List Int)} {x : Value} (q b : Nat) (hs : SpH P f (.sl pbase 1 0 rows.length :: as) (matL rows) (.v x) (matL rows')) (ha : args.map s.ev = .sl q 1 0 rows.length :: as) (hpl : as.all plainV = true)
    (hqb : q < b) (hlen : rows'.length = rows.length) (hll : ∀ j, j < rows.length → (rows'.getD j []).length = (rows.getD j []).length) (h0 : s.hp q = some (false, rowsC b rows)) (hrow : ∀ j, j < rows.length → s.hp (b + j) = some (true, (rows.getD j []).map AV.i))
    (k : K (AS.put (s.setM b rows') d (.v x))) : aop1 P true ⟨d, .call f args, none⟩ s K := by
  unfold AS.setM at k
  rw [hlen] at k
  have hcells : renL (lnm q b) (rowsC (pbase + 1) rows) = rowsC b rows := rowsC_ren _ _ _ _ fun j _ => lnm_row q b j
  have hsame : rowsC (pbase + 1) rows' = rowsC (pbase + 1) rows := rowsC_same _ _ _ hlen fun j hj => hll j (by omega)
  have hhas : ∀ r c, matL rows r = some c → s.hp (lnm q b r) = some (renR (lnm q b) c) := by
    intro r c hc
    rcases matH_some hc with ⟨rfl, rfl⟩ | ⟨j, hj, rfl, rfl⟩
    · rw [lnm_outer, h0]; simp only [renR]; rw [hcells]
    · rw [lnm_row, hrow j hj]; simp only [renR]; rw [renL_ints]
  have hpl2 : renL (lnm q b) as = as ∧ ownL true as = true ∧ ∀ keep, refsL keep as = true := by
    clear hs ha
    induction as with
    | nil => exact ⟨rfl, rfl, fun _ => rfl⟩
    | cons a as ih =>
      simp only [List.all_cons, Bool.and_eq_true] at hpl
      obtain ⟨h1, h2, h3⟩ := ih hpl.2
      cases a <;> simp [plainV] at hpl
      refine ⟨by simp only [renL, renV, h1], by simp only [ownL, ownV, h2, Bool.and_self], fun keep => by simp only [refsL, refsV, h3, Bool.and_self]⟩
  have hinj : ∀ r r', (matL rows' r).isSome = true → (matL rows' r').isSome = true → lnm q b r = lnm q b r' → r = r' := by
    intro r r' h1 h2 e
    obtain ⟨c, hc⟩ := Option.isSome_iff_exists.1 h1
    obtain ⟨c', hc'⟩ := Option.isSome_iff_exists.1 h2
    rcases matH_some hc with ⟨rfl, _⟩ | ⟨j, hj, rfl, _⟩ <;> rcases matH_some hc' with ⟨rfl, _⟩ | ⟨j', hj', rfl, _⟩
    · rfl
    · rw [lnm_outer, lnm_row] at e; omega
    · rw [lnm_outer, lnm_row] at e; omega
    · rw [lnm_row, lnm_row] at e; omega
  have hstay : ∀ r, (matL rows r).isSome = true ↔ (matL rows' r).isSome = true := by
    intro r
    constructor
    · intro hr
      obtain ⟨c, hc⟩ := Option.isSome_iff_exists.1 hr
      rcases matH_some hc with ⟨rfl, _⟩ | ⟨j, hj, rfl, _⟩
      · rw [matL, matH_outer]; rfl
      · rw [matL, matH_row (by omega) (by omega)]; rfl
    · intro hr
      obtain ⟨c, hc⟩ := Option.isSome_iff_exists.1 hr
      rcases matH_some hc with ⟨rfl, _⟩ | ⟨j, hj, rfl, _⟩
      · rw [matL, matH_outer]; rfl
      · rw [matL, matH_row (by omega) (by omega)]; rfl
  refine m_callh (lnm q b) hs ?_ ⟨hhas, hinj, fun r hr => (hstay r).1 hr, fun r hr h2 => ?_, fun r c hc => ?_, fun p hp => ?_, fun r c hc => ?_, fun r c hc => (matH_own (by omega) r c hc).1, by simp [ownV]⟩ k
  · rw [ha]
    have e : (.sl q 1 0 rows.length :: as : List AV) = renL (lnm q b) (.sl pbase 1 0 rows.length :: as) := by simp only [renL, renV, lnm_outer, hpl2.1]
    rw [e]
    refine lendsH_ren (fun r c hc => by rw [hhas r c hc]; rfl) (by simp only [ownL, ownV, hpl2.2.1, Bool.and_self]) ?_
    simp only [refsL, refsV, hpl2.2.2, Bool.and_true]
    rw [matL, matH_outer]; rfl
  · have := (hstay r).2 hr
    rw [h2] at this; simp at this
  · rcases matH_some hc with ⟨rfl, rfl⟩ | ⟨j, hj, rfl, rfl⟩
    · rw [lnm_outer, if_neg (by omega), h0, hsame]
      simp only [renR]; rw [hcells]
    · rw [lnm_row, if_pos ⟨by omega, by omega⟩, Nat.add_sub_cancel_left]
      simp only [renR]; rw [renL_ints]
  · rw [if_neg]
    rintro ⟨h2, h3⟩
    refine hp (pbase + 1 + (p - b)) ?_ ?_
    · rw [matL, matH_row (by omega) (by omega)]; rfl
    · rw [lnm_row]; omega
  · obtain ⟨h1, h2⟩ := matH_own (by omega) r c hc
    refine ⟨?_, h2⟩
    rcases matH_some hc with ⟨rfl, rfl⟩ | ⟨j, hj, rfl, rfl⟩
    · exact rowsC_own _ _ _
    · exact ownL_ints _ _

/-- A matrix that is read; one of new memory that is read. -/
abbrev roM (rows : List (List Int)) : AV := .ro false 1 (rows.map ints) rows.length
abbrev roF (rows : List (List Int)) : AV := .ro true 1 (rows.map newInts) rows.length
theorem roM_at {rows : List (List Int)} {k : Nat} (h : k < rows.length) : ((rows.map ints).drop k)[0]? = some (ints (rows.getD k [])) := by simp [h]

theorem lend_mat {hp : Hp} {r b : Nat} {rows : List (List Int)} (hr : hp r = some (false, rowsC b rows)) (hrow : ∀ j, j < rows.length → hp (b + j) = some (true, (rows.getD j []).map AV.i)) : Lend hp (.sl r 1 0 rows.length) (roM rows) := by
  intro w0 mu N tm w phi ro v hS h
  simp only [SimV] at h ⊢
  rcases h.2.2 with ⟨h1, _, h3, h4⟩ | ⟨b', o, cap, cur, e, h1, h2, h3, h4, h5, h6, h7⟩
  · have : rows = [] := List.eq_nil_of_length_eq_zero h3
    subst this
    exact .inl ⟨rfl, rfl, none, 0, by simpa using h4, by simp⟩
  · have ho : o = 0 := by
      rcases h4 with h4 | h4
      · exact h4
      · omega
    subst ho
    rcases hS.liv r _ hr with ⟨h8, _⟩ | ⟨b2, cur', e', h8, h9, h10, h11, h12⟩ | ⟨b2, o2, h0, _⟩
    · have : phi r = some b' := h1
      rw [h8] at this; cases this
    case inr.inr => cases h0
    · have h1' : phi r = some b' := h1
      rw [h8] at h1'
      cases h1'
      have h3' : w.heap[b']? = some (.cells cur e (0, 0)) := h3
      rw [h9] at h3'
      cases h3'
      refine .inr ⟨b', 0, cap, cur, e, (0, 0), h2, h9, lt_of_get h9, by simp, h5, by simp, ?_⟩
      simp only [SimR, Bool.false_eq_true, if_false] at h12
      rw [List.drop_zero]
      refine SimL.of_get fun j a hj => ?_
      rw [List.getElem?_map, Option.map_eq_some_iff] at hj
      obtain ⟨l, hl, rfl⟩ := hj
      have hjl := (List.getElem?_eq_some_iff.1 hl).1
      have e1 : rows.getD j [] = l := by rw [List.getD_eq_getElem?_getD, hl]; rfl
      obtain ⟨y, k1, k2⟩ := h12.get (rowsC_get b rows j hjl)
      refine ⟨y, k1, ?_⟩
      rw [e1] at k2
      have hrj := hrow j hjl
      rw [e1] at hrj
      have := lend_sli (hp := hp) (r := b + j) (L := l) hrj rfl w0 mu N tm w phi ro y hS k2
      rw [SimV] at this ⊢
      exact this

theorem lend_roM {hp : Hp} {fr fr2 : Bool} {n : Nat} {rows : List (List Int)} (hn : n = rows.length) : Lend hp (.ro fr 1 (rows.map fun l => .ro fr2 1 (l.map AV.i) l.length) n) (roM rows) := by
  subst hn
  intro w0 mu N tm w phi ro v hS h
  simp only [SimV] at h ⊢
  rcases h with ⟨h1, h2, a, c, h3, _⟩ | ⟨b, o, cap, cur, e, fz, h1, h2, h3, h4, h5, _, h6⟩
  · have : rows = [] := List.eq_nil_of_length_eq_zero h1
    subst this
    exact .inl ⟨rfl, rfl, a, c, h3, by simp⟩
  · refine .inr ⟨b, o, cap, cur, e, fz, h1, h2, hS.rob b h3, by simp, h5, by simp, ?_⟩
    refine SimL.of_get fun j x hj => ?_
    rw [List.getElem?_map, Option.map_eq_some_iff] at hj
    obtain ⟨l, hl, rfl⟩ := hj
    obtain ⟨y, k1, k2⟩ := h6.get (i := j) (a := .ro fr2 1 (l.map AV.i) l.length) (by rw [List.getElem?_map, hl]; rfl)
    refine ⟨y, k1, ?_⟩
    simp only [SimV] at k2 ⊢
    rcases k2 with ⟨g1, g2, a', c', g3, _⟩ | ⟨b', o', cap', cur', e', fz', g1, g2, g3, g4, g5, _, g6⟩
    · exact .inl ⟨g1, g2, a', c', g3, by simp⟩
    · exact .inr ⟨b', o', cap', cur', e', fz', g1, g2, hS.rob b' g3, g4, g5, by simp, simL_allv (allv_ints l) g6⟩

theorem ob_ints {G : Prop} {l : List Int} {o : Obj} (h : ((true, l.map AV.i) : Bool × List AV) = (true, [.ob o])) : G := by
  simp only [Prod.mk.injEq, true_and] at h
  cases l with
  | nil => simp at h
  | cons x l => simp at h
/-- A matrix handed out, read. -/
theorem simv_roF {w w' : World} {phi : Nat → Option Nat} {rows : List (List Int)} {v : Value} (h1 : ∀ r b, (matO rows r).isSome = true → phi r = some b → w.heap.size ≤ b) (h2 : Regs (ctxX w w' phi (matO rows)) (matO rows)) (h3 : SimV (.sl nbase 1 0 rows.length) (ctxX w w' phi (matO rows)) v) : SimV (roF rows) (fresh w w') v := by
  simp only [SimV] at h3 ⊢
  rcases h3.2.2 with ⟨k1, _, k3, k4⟩ | ⟨b', o, cap, cur, e, k1, k2, k3, k4, k5, k6, k7⟩
  · have : rows = [] := List.eq_nil_of_length_eq_zero k3
    subst this
    exact .inl ⟨rfl, rfl, none, 0, by simpa using k4, by simp⟩
  · have ho : o = 0 := by
      rcases k4 with k4 | k4
      · exact k4
      · omega
    subst ho
    have hb := h1 nbase b' (by rw [matO, matH_outer]; rfl) k1
    have k3' : w'.heap[b']? = some (.cells cur e (0, 0)) := k3
    refine .inr ⟨b', 0, cap, cur, e, (0, 0), k2, k3', ⟨hb, lt_of_get k3'⟩, by simp, k5, fun _ => ⟨hb, rfl, rfl, k6, by omega⟩, ?_⟩
    rcases h2 nbase _ (matH_outer _ _ _) with ⟨g1, _⟩ | ⟨b2, cur2, e2, g1, g2, g3⟩ | ⟨b2, o2, h0, _⟩
    case inr.inr => cases h0
    · have : phi nbase = some b' := k1
      have g1' : phi nbase = none := g1
      rw [g1'] at this; cases this
    · have g1' : phi nbase = some b2 := g1
      have k1' : phi nbase = some b' := k1
      rw [g1'] at k1'
      cases k1'
      have g2' : w'.heap[b']? = some (.cells cur2 e2 (0, 0)) := g2
      rw [k3'] at g2'
      cases g2'
      simp only [SimR, Bool.false_eq_true, if_false] at g3
      rw [List.drop_zero]
      refine SimL.of_get fun j x hj => ?_
      rw [List.getElem?_map, Option.map_eq_some_iff] at hj
      obtain ⟨l, hl, rfl⟩ := hj
      have hjl := (List.getElem?_eq_some_iff.1 hl).1
      have e1 : rows.getD j [] = l := by rw [List.getD_eq_getElem?_getD, hl]; rfl
      obtain ⟨y, m1, m2⟩ := g3.get (rowsC_get (nbase + 1) rows j hjl)
      refine ⟨y, m1, ?_⟩
      rw [e1] at m2
      simp only [SimV] at m2 ⊢
      rcases m2.2.2 with ⟨n1, _, n3, n4⟩ | ⟨b3, o3, cap3, cur3, e3, n1, n2, n3, n4, n5, n6, n7⟩
      · have : l = [] := List.eq_nil_of_length_eq_zero n3
        subst this
        exact .inl ⟨rfl, rfl, none, 0, by simpa using n4, by simp⟩
      · have ho3 : o3 = 0 := by
          rcases n4 with n4 | n4
          · exact n4
          · omega
        subst ho3
        have hrow := matH_row (r0 := nbase) (b := nbase + 1) (rows := rows) (by omega) hjl
        have hb3 := h1 (nbase + 1 + j) b3 (by rw [matO, hrow]; rfl) n1
        have n3' : w'.heap[b3]? = some (.cells cur3 e3 (0, 0)) := n3
        refine .inr ⟨b3, 0, cap3, cur3, e3, (0, 0), n2, n3', ⟨hb3, lt_of_get n3'⟩, by simp, n5, fun _ => ⟨hb3, rfl, rfl, n6, by omega⟩, ?_⟩
        rcases h2 _ _ hrow with ⟨g4, _⟩ | ⟨b4, cur4, e4, g4, g5, g6⟩ | ⟨b4, o4, h0, _⟩
        case inr.inr => exact ob_ints h0
        · have n1' : phi (nbase + 1 + j) = some b3 := n1
          have g4' : phi (nbase + 1 + j) = none := g4
          rw [g4'] at n1'; cases n1'
        · have g4' : phi (nbase + 1 + j) = some b4 := g4
          have n1' : phi (nbase + 1 + j) = some b3 := n1
          rw [g4'] at n1'
          cases n1'
          have g5' : w'.heap[b3]? = some (.cells cur4 e4 (0, 0)) := g5
          rw [n3'] at g5'
          cases g5'
          simp only [SimR, if_true] at g6
          rw [e1] at g6
          rw [List.drop_zero]
          exact simL_allv (allv_ints l) g6
theorem sp_mat1 {f : FuncId} {as : List AV} {rows : List (List Int)} (h : SpH P f as (fun _ => none) (.sl nbase 1 0 rows.length) (matO rows)) : Sp P f as (roF rows) :=
  spH_sp h fun _ _ _ _ h1 h2 h3 => simv_roF h1 h2 h3
theorem sp_mat2 {f : FuncId} {as : List AV} {rows : List (List Int)} {x : Value} (h : SpH P f as (fun _ => none) (.tup [.sl nbase 1 0 rows.length, .v x]) (matO rows)) : Sp P f as (.tup [roF rows, .v x]) := by
  refine spH_sp h fun w w' phi v h1 h2 h3 => ?_
  rw [SimV] at h3 ⊢
  obtain ⟨a, k1, k2, k3⟩ := h3
  refine ⟨a, k1, k2, ?_⟩
  match hl : a.toList with
  | [] => rw [hl] at k3; simp [SimL] at k3
  | [_] => rw [hl] at k3; simp [SimL] at k3
  | u :: v :: rest =>
    rw [hl] at k3
    rw [SimL, SimL] at k3 ⊢
    exact ⟨simv_roF h1 h2 k3.1, by simpa [SimV] using k3.2.1, by simp [SimL]⟩
end Go.Am
