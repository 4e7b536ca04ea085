/- Regions of a recursion that appends lists behind a pointer: what it is given, what it hands out, the caller's and the callee's names. No program. Such a recursion's states and calls. No program. -/
import Derived.Test.YtlcjipgnflncfaaAmGv
namespace Go.Am
theorem ret_doneT {s : AS} {ts : List Nat} {res : AV} {hin hout : Hp} (g : Nat → Nat) (h1 : resAV s ts = renV g res) (h2 : ∀ r c, hout r = some c → ∃ c0, s.hp (g r) = some c0 ∧ (c0 = renR g c ∨ (c.2 = [] ∧ c0.2 = []))) (h3 : ∀ r, (hin r).isSome = true → r < gvb → g r = r ∧ (hout r).isSome = true)
    (h4 : ∀ r, (hout r).isSome = true → hin r = none → g r < pbase) (h5 : ∀ r r', (hout r).isSome = true → (hout r').isSome = true → g r = g r' → r = r') (h6 : ∀ r, (hout r).isSome = true → r < gvb) : DoneT ts res hin hout .ret s := ⟨g, h1, h2, h3, h4, h5, h6⟩
theorem normal_doneT {s : AS} {ts : List Nat} {res : AV} {hin hout : Hp} (h : DoneT ts res hin hout .ret s) : DoneT ts res hin hout .normal s := h
section
attribute [local irreducible] SpH DoneH SpG DoneT
/-- The cell with the lists; they and a list more are given; they are handed out. -/
abbrev tyC (r n : Nat) : Bool × List AV := (false, [.sl r 1 0 n])
def hinA (P R : List (List Int)) : Hp := famH (look [(pbase, tyC gvb P.length), (gvb, (false, rowsC (gvb + 1) P))]) (gvb + 1) R
def houtA (P : List (List Int)) : Hp := famH (look [(pbase, tyC nbase P.length), (nbase, (false, rowsC (nbase + 1) P))]) (nbase + 1) P
def stA (l : List (Nat × AV)) (P R : List (List Int)) : AS := stG l [(pbase, tyC 900 P.length), (900, (false, rowsC 1000 P))] 1000 R
/-- So many lists at most. -/
def mxA : Nat := 1000000

theorem look2 {β : Type} {a b r : Nat} {x y v : β} (h : look [(a, x), (b, y)] r = some v) : (r = a ∧ v = x) ∨ (r = b ∧ v = y) := by
  simp only [look] at h
  split at h
  · exact .inl ⟨by assumption, (Option.some.inj h).symm⟩
  · split at h
    · exact .inr ⟨by assumption, (Option.some.inj h).symm⟩
    · cases h
theorem look2_none {β : Type} {a b r : Nat} {x y : β} (h1 : r ≠ a) (h2 : r ≠ b) : look [(a, x), (b, y)] r = none := by
  simp only [look, if_neg h1, if_neg h2]
theorem hinA_some {P R : List (List Int)} {r : Nat} {c : Bool × List AV} (h : hinA P R r = some c) : (r = pbase ∧ c = tyC gvb P.length) ∨ (r = gvb ∧ c = (false, rowsC (gvb + 1) P)) ∨ ∃ j, j < R.length ∧ r = gvb + 1 + j ∧ c = (true, (R.getD j []).map AV.i) := by
  rcases famH_some h with h1 | ⟨_, j, h2, h3, h4⟩
  · rcases look2 h1 with h | h
    · exact .inl h
    · exact .inr (.inl h)
  · exact .inr (.inr ⟨j, h2, h3, h4⟩)
theorem houtA_some {P : List (List Int)} {r : Nat} {c : Bool × List AV} (h : houtA P r = some c) : (r = pbase ∧ c = tyC nbase P.length) ∨ (r = nbase ∧ c = (false, rowsC (nbase + 1) P)) ∨ ∃ j, j < P.length ∧ r = nbase + 1 + j ∧ c = (true, (P.getD j []).map AV.i) := by
  rcases famH_some h with h1 | ⟨_, j, h2, h3, h4⟩
  · rcases look2 h1 with h | h
    · exact .inl h
    · exact .inr (.inl h)
  · exact .inr (.inr ⟨j, h2, h3, h4⟩)
theorem hinA_row {P R : List (List Int)} {j : Nat} (hj : j < R.length) : hinA P R (gvb + 1 + j) = some (true, (R.getD j []).map AV.i) := by
  have hp : pbase = 4000000 := rfl
  have hg : gvb = 16000000 := rfl
  exact famH_row (look2_none (by omega) (by omega)) hj
theorem houtA_row {P : List (List Int)} {j : Nat} (hj : j < P.length) : houtA P (nbase + 1 + j) = some (true, (P.getD j []).map AV.i) := by
  have hp : pbase = 4000000 := rfl
  have hg : nbase = 8000000 := rfl
  exact famH_row (look2_none (by omega) (by omega)) hj
theorem stA_row {l : List (Nat × AV)} {P R : List (List Int)} {j : Nat} (hj : j < R.length) (h2 : R.length ≤ mxA + 1) : (stA l P R).hp (1000 + j) = some (true, (R.getD j []).map AV.i) := by
  have hp : pbase = 4000000 := rfl
  have hx : mxA = 1000000 := rfl
  exact famH_row (look2_none (by omega) (by omega)) hj

theorem stA_static (P R P' : List (List Int)) : Static (hinA P R) (.tup []) (houtA P') := by
  have hp : pbase = 4000000 := rfl
  have hn : nbase = 8000000 := rfl
  have hg : gvb = 16000000 := rfl
  refine ⟨fun r hr => ?_, fun r c hc => ?_, by simp [ownV, ownL, refsV, refsL]⟩
  · obtain ⟨c, hc⟩ := Option.isSome_iff_exists.1 hr
    rcases hinA_some hc with ⟨rfl, _⟩ | ⟨rfl, _⟩ | ⟨j, _, rfl, _⟩ <;> omega
  · rcases houtA_some hc with ⟨_, rfl⟩ | ⟨_, rfl⟩ | ⟨j, _, _, rfl⟩
    · exact ⟨rfl, rfl⟩
    · refine ⟨rowsC_own _ _ _, rowsC_refs _ _ _ fun j hj => ?_⟩
      rw [houtA_row hj]; rfl
    · exact ⟨ownL_ints _ _, refsL_ints _ _⟩

/-- The call's own names for what it is given. -/
def nmA : Nat → Nat := fun r => if r = 900 then gvb else if 1000 ≤ r ∧ r < pbase then gvb + 1 + (r - 1000) else r
theorem nmA_row {j : Nat} (h : j < mxA + 2) : nmA (1000 + j) = gvb + 1 + j := by
  have hp : pbase = 4000000 := rfl
  have hx : mxA = 1000000 := rfl
  unfold nmA
  rw [if_neg (by omega), if_pos (by omega), Nat.add_sub_cancel_left]
theorem stA_enter {av : List AV} {l : List (Nat × AV)} {P R : List (List Int)} (hR : R.length ≤ mxA + 1) (hPR : P.length ≤ R.length) (hl : HasF (enterH av (hinA P R)) nmA l) (hr : refsT (fun r => (famH (look [(pbase, tyC 900 P.length), (900, (false, rowsC 1000 P))]) 1000 R r).isSome) l = true) : Weak (enterH av (hinA P R)) (stA l P R) := by
  have hp : pbase = 4000000 := rfl
  have hg : gvb = 16000000 := rfl
  have hx : mxA = 1000000 := rfl
  refine weak_G nmA hl ⟨rfl, ?_, trivial⟩ (fun j hj => ?_) (show [nmA pbase, nmA 900].Nodup by decide) (fun j j' h1 h2 e => ?_) (fun p hm j hj => ?_) (fun p hm => ?_) (fun j hj => ?_) hr (fun p hm hf => ?_)
  · show hinA P R (nmA 900) = some (false, renL nmA (rowsC 1000 P))
    rw [rowsC_ren nmA 1000 (gvb + 1) P fun j hj => nmA_row (by omega)]
    rfl
  · rw [nmA_row (by omega)]
    exact hinA_row hj
  · rw [nmA_row (by omega), nmA_row (by omega)] at e
    omega
  · rw [nmA_row (by omega)]
    simp only [List.mem_cons, List.not_mem_nil, or_false] at hm
    rcases hm with rfl | rfl
    · show nmA pbase ≠ _
      have : nmA pbase = pbase := by decide
      omega
    · show nmA 900 ≠ _
      have : nmA 900 = gvb := by decide
      omega
  · simp only [List.mem_cons, List.not_mem_nil, or_false] at hm
    rcases hm with rfl | rfl
    · exact .inr (.inl ⟨by show pbase ≤ pbase; omega, show nmA pbase = pbase by decide⟩)
    · exact .inr (.inr ⟨by show 900 < pbase; omega, show gvb ≤ nmA 900 by decide⟩)
  · rw [nmA_row (by omega)]
    exact .inr (.inr ⟨by omega, by omega⟩)
  · simp only [List.mem_cons, List.not_mem_nil, or_false] at hm
    rcases hm with rfl | rfl
    · rfl
    · refine rowsC_refs _ _ _ fun j hj => ?_
      show (famH _ 1000 R (1000 + j)).isSome = true
      rw [famH_row (look2_none (by omega) (by omega)) (by omega)]
      rfl

/-- The end: the lists lie in the region q. -/
theorem stA_done {s : AS} {P R P' : List (List Int)} {q : Nat} (hq : q < 1000) (hP : P'.length ≤ mxA) (h1 : s.hp pbase = some (tyC q P'.length)) (h2 : s.hp q = some (false, rowsC 1000 P')) (h3 : ∀ j, j < P'.length → s.hp (1000 + j) = some (true, (P'.getD j []).map AV.i)) : DoneT [] (.tup []) (hinA P R) (houtA P') .ret s := by
  have hp : pbase = 4000000 := rfl
  have hn : nbase = 8000000 := rfl
  have hg : gvb = 16000000 := rfl
  have hx : mxA = 1000000 := rfl
  have g0 : ∀ r, r < nbase → (if r = nbase then q else if nbase + 1 ≤ r then 1000 + (r - (nbase + 1)) else r) = r := fun r hr => by rw [if_neg (by omega), if_neg (by omega)]
  have g1 : ∀ j, (if nbase + 1 + j = nbase then q else if nbase + 1 ≤ nbase + 1 + j then 1000 + (nbase + 1 + j - (nbase + 1)) else nbase + 1 + j) = 1000 + j := fun j => by rw [if_neg (by omega), if_pos (by omega), Nat.add_sub_cancel_left]
  refine ret_doneT (fun r => if r = nbase then q else if nbase + 1 ≤ r then 1000 + (r - (nbase + 1)) else r) (by rfl) (fun r c hc => ?_) (fun r hr hlt => ?_) (fun r hr hno => ?_) (fun r r' hr hr' e => ?_) (fun r hr => ?_)
  · rcases houtA_some hc with ⟨rfl, rfl⟩ | ⟨rfl, rfl⟩ | ⟨j, hj, rfl, rfl⟩
    · refine ⟨_, by rw [g0 _ (by omega)]; exact h1, .inl ?_⟩
      simp only [renR, renL, renV, if_true]
    · refine ⟨_, by rw [if_pos rfl]; exact h2, .inl ?_⟩
      simp only [renR]
      rw [rowsC_ren _ (nbase + 1) 1000 P' fun j hj => g1 j]
    · refine ⟨_, by rw [g1]; exact h3 j hj, .inl ?_⟩
      simp only [renR]
      rw [renL_ints]
  · obtain ⟨c, hc⟩ := Option.isSome_iff_exists.1 hr
    rcases hinA_some hc with ⟨rfl, _⟩ | ⟨rfl, _⟩ | ⟨j, _, rfl, _⟩
    · exact ⟨g0 _ (by omega), rfl⟩
    · omega
    · omega
  · obtain ⟨c, hc⟩ := Option.isSome_iff_exists.1 hr
    rcases houtA_some hc with ⟨rfl, _⟩ | ⟨rfl, _⟩ | ⟨j, hj, rfl, _⟩
    · have e : hinA P R pbase = some (tyC gvb P.length) := rfl
      rw [e] at hno; cases hno
    · show (if nbase = nbase then q else _) < _
      rw [if_pos rfl]; omega
    · show (if nbase + 1 + j = nbase then q else _) < _
      rw [g1]; omega
  · obtain ⟨c, hc⟩ := Option.isSome_iff_exists.1 hr
    obtain ⟨c', hc'⟩ := Option.isSome_iff_exists.1 hr'
    rcases houtA_some hc with ⟨rfl, _⟩ | ⟨rfl, _⟩ | ⟨j, hj, rfl, _⟩ <;> rcases houtA_some hc' with ⟨rfl, _⟩ | ⟨rfl, _⟩ | ⟨j', hj', rfl, _⟩ <;> (repeat' split at e) <;> omega
  · obtain ⟨c, hc⟩ := Option.isSome_iff_exists.1 hr
    rcases houtA_some hc with ⟨rfl, _⟩ | ⟨rfl, _⟩ | ⟨j, hj, rfl, _⟩ <;> omega

/-- The callee's names for what the caller has; X is the list that was made for the call. -/
def nmB (X n : Nat) : Nat → Nat := fun r => if r = gvb then 900 else if gvb + 1 ≤ r then (if r - (gvb + 1) < n then 1000 + (r - (gvb + 1)) else X) else if r = nbase then 900 else if nbase + 1 ≤ r then 1000 + (r - (nbase + 1)) else r
/-- What is given, and the list that was made for the call. -/
def gvA (X : Nat) : Nat → Bool := fun r => r == 900 || (decide (1000 ≤ r) && decide (r < pbase)) || r == X
theorem nmB_row {X n j : Nat} (h : j < n) : nmB X n (gvb + 1 + j) = 1000 + j := by
  unfold nmB
  rw [if_neg (by omega), if_pos (by omega), Nat.add_sub_cancel_left, if_pos h]
theorem nmB_new (X n : Nat) : nmB X n (gvb + 1 + n) = X := by
  unfold nmB
  rw [if_neg (by omega), if_pos (by omega), Nat.add_sub_cancel_left, if_neg (by omega)]
theorem nmB_out {X n j : Nat} (h : j < mxA + 2) : nmB X n (nbase + 1 + j) = 1000 + j := by
  have hn : nbase = 8000000 := rfl
  have hg : gvb = 16000000 := rfl
  have hx : mxA = 1000000 := rfl
  unfold nmB
  rw [if_neg (by omega), if_neg (by omega), if_neg (by omega), if_pos (by omega), Nat.add_sub_cancel_left]
theorem nmB_0 (X n : Nat) : nmB X n pbase = pbase ∧ nmB X n gvb = 900 ∧ nmB X n nbase = 900 := by
  have hp : pbase = 4000000 := rfl
  have hn : nbase = 8000000 := rfl
  have hg : gvb = 16000000 := rfl
  unfold nmB
  exact ⟨by rw [if_neg (by omega), if_neg (by omega), if_neg (by omega), if_neg (by omega)], by rw [if_pos rfl], by rw [if_neg (by omega), if_neg (by omega), if_pos rfl]⟩

/-- The caller's regions behind the call. -/
def hpA (X : Nat) (s : AS) (P' : List (List Int)) : Hp := fun q => if q = pbase then some (tyC 900 P'.length) else if q = 900 then some (false, rowsC 1000 P') else if 1000 ≤ q ∧ q < 1000 + P'.length then some (true, (P'.getD (q - 1000) []).map AV.i) else (s.drop (gvA X)).hp q
theorem hpA_at (X : Nat) (s : AS) (P' : List (List Int)) : hpA X s P' pbase = some (tyC 900 P'.length) ∧ hpA X s P' 900 = some (false, rowsC 1000 P') := ⟨rfl, rfl⟩
theorem hpA_row {X : Nat} {s : AS} {P' : List (List Int)} {j : Nat} (hj : j < P'.length) (h2 : P'.length ≤ mxA) : hpA X s P' (1000 + j) = some (true, (P'.getD j []).map AV.i) := by
  have hp : pbase = 4000000 := rfl
  have hx : mxA = 1000000 := rfl
  unfold hpA
  rw [if_neg (by omega), if_neg (by omega), if_pos (by omega), Nat.add_sub_cancel_left]
theorem gvA_row {X j : Nat} (h : j < mxA + 2) : gvA X (1000 + j) = true := by
  have hp : pbase = 4000000 := rfl
  have hx : mxA = 1000000 := rfl
  unfold gvA
  rw [decide_eq_true (show 1000 ≤ 1000 + j by omega), decide_eq_true (show 1000 + j < pbase by omega)]
  simp

theorem stA_given {X : Nat} {s : AS} {P R P' : List (List Int)} (hX : X < 900) (hP : P.length ≤ mxA) (hR : R.length ≤ P.length + 1) (hP' : P'.length ≤ mxA) (h1 : s.hp pbase = some (tyC 900 P.length)) (h2 : s.hp 900 = some (false, rowsC 1000 P)) (h3 : ∀ j, j < R.length → s.hp (nmB X P.length (gvb + 1 + j)) = some (true, (R.getD j []).map AV.i)) (hPR : P.length ≤ R.length) :
    Given s (gvA X) (nmB X P.length) (hinA P R) (houtA P') (hpA X s P') (.tup []) := by
  have hp : pbase = 4000000 := rfl
  have hn : nbase = 8000000 := rfl
  have hg : gvb = 16000000 := rfl
  have hx : mxA = 1000000 := rfl
  obtain ⟨g1, g2, g3⟩ := nmB_0 X P.length
  have grow : ∀ j, j < R.length → (nmB X P.length (gvb + 1 + j) = 1000 + j ∧ j < P.length) ∨ (nmB X P.length (gvb + 1 + j) = X ∧ j = P.length) := by
    intro j hj
    by_cases h : j < P.length
    · exact .inl ⟨nmB_row h, h⟩
    · obtain rfl : j = P.length := by omega
      exact .inr ⟨nmB_new _ _, rfl⟩
  have gout : ∀ j, j < P'.length → nmB X P.length (nbase + 1 + j) = 1000 + j := fun j hj => nmB_out (by omega)
  have qX : gvA X X = true := by simp [gvA]
  have q900 : gvA X 900 = true := rfl
  have qp : gvA X pbase = false := by
    unfold gvA
    simp only [Bool.or_eq_false_iff, Bool.and_eq_false_iff, beq_eq_false_iff_ne, decide_eq_false_iff_not]
    omega
  have hinS : ∀ r, (hinA P R r).isSome = true → r = pbase ∨ r = gvb ∨ ∃ j, j < R.length ∧ r = gvb + 1 + j := by
    intro r hr
    obtain ⟨c, hc⟩ := Option.isSome_iff_exists.1 hr
    rcases hinA_some hc with ⟨h, _⟩ | ⟨h, _⟩ | ⟨j, h, h', _⟩
    · exact .inl h
    · exact .inr (.inl h)
    · exact .inr (.inr ⟨j, h, h'⟩)
  have houtS : ∀ r, (houtA P' r).isSome = true → r = pbase ∨ r = nbase ∨ ∃ j, j < P'.length ∧ r = nbase + 1 + j := by
    intro r hr
    obtain ⟨c, hc⟩ := Option.isSome_iff_exists.1 hr
    rcases houtA_some hc with ⟨h, _⟩ | ⟨h, _⟩ | ⟨j, h, h', _⟩
    · exact .inl h
    · exact .inr (.inl h)
    · exact .inr (.inr ⟨j, h, h'⟩)
  have hinV : ∀ r, (hinA P R r).isSome = true → (r = pbase ∧ nmB X P.length r = pbase) ∨ (r = gvb ∧ nmB X P.length r = 900) ∨ (∃ j, j < P.length ∧ r = gvb + 1 + j ∧ nmB X P.length r = 1000 + j) ∨ (r = gvb + 1 + P.length ∧ nmB X P.length r = X) := by
    intro r hr
    rcases hinS r hr with h | h | ⟨j, hj, h⟩
    · exact .inl ⟨h, by rw [h]; exact g1⟩
    · exact .inr (.inl ⟨h, by rw [h]; exact g2⟩)
    · rcases grow j hj with ⟨e, h'⟩ | ⟨e, h'⟩
      · exact .inr (.inr (.inl ⟨j, h', h, by rw [h]; exact e⟩))
      · exact .inr (.inr (.inr ⟨by rw [h, h'], by rw [h]; exact e⟩))
  have houtV : ∀ r, (houtA P' r).isSome = true → (r = pbase ∧ nmB X P.length r = pbase) ∨ (r = nbase ∧ nmB X P.length r = 900) ∨ ∃ j, j < P'.length ∧ r = nbase + 1 + j ∧ nmB X P.length r = 1000 + j := by
    intro r hr
    rcases houtS r hr with h | h | ⟨j, hj, h⟩
    · exact .inl ⟨h, by rw [h]; exact g1⟩
    · exact .inr (.inl ⟨h, by rw [h]; exact g3⟩)
    · exact .inr (.inr ⟨j, hj, h, by rw [h]; exact gout j hj⟩)
  refine ⟨fun r c hc => ?_, fun r hr => ?_, fun r hr hge => ?_, fun r r' hr hr' e => ?_, fun r r' hr hr' e => ?_, fun r hr hlt => ?_, fun r hr => ?_, fun r hr hno => ?_, fun r c hc => ?_, fun q hq => ?_, fun r c hc => ?_, fun r c hc => ?_, rfl⟩
  · rcases hinA_some hc with ⟨rfl, rfl⟩ | ⟨rfl, rfl⟩ | ⟨j, hj, rfl, rfl⟩
    · rw [g1, h1]
      simp only [renR, renL, renV, g2]
    · rw [g2, h2]
      simp only [renR]
      rw [rowsC_ren _ (gvb + 1) 1000 P fun j hj => nmB_row hj]
    · rw [h3 j hj]
      simp only [renR]
      rw [renL_ints]
  · rcases hinS r hr with rfl | rfl | ⟨j, hj, rfl⟩
    · rw [g1, qp]
      exact ⟨fun h => (by cases h), fun h => by omega⟩
    · rw [g2]
      exact ⟨fun _ => Nat.le_refl _, fun _ => q900⟩
    · refine ⟨fun _ => by omega, fun _ => ?_⟩
      rcases grow j hj with ⟨e, h⟩ | ⟨e, _⟩
      · rw [e]; exact gvA_row (by omega)
      · rw [e]; exact qX
  · refine .inl ?_
    rcases hinS r hr with rfl | rfl | ⟨j, hj, rfl⟩
    · omega
    · rw [g2]; omega
    · rcases grow j hj with ⟨e, h⟩ | ⟨e, _⟩
      · rw [e]; omega
      · rw [e]; omega
  · rcases hinV r hr with ⟨a, b⟩ | ⟨a, b⟩ | ⟨j, h, a, b⟩ | ⟨a, b⟩ <;> rcases hinV r' hr' with ⟨a', b'⟩ | ⟨a', b'⟩ | ⟨j', h', a', b'⟩ | ⟨a', b'⟩ <;> omega
  · rcases houtV r hr with ⟨a, b⟩ | ⟨a, b⟩ | ⟨j, h, a, b⟩ <;> rcases houtV r' hr' with ⟨a', b'⟩ | ⟨a', b'⟩ | ⟨j', h', a', b'⟩ <;> omega
  · rcases hinS r hr with rfl | rfl | ⟨j, hj, rfl⟩
    · rfl
    · omega
    · omega
  · rcases houtS r hr with rfl | rfl | ⟨j, hj, rfl⟩ <;> omega
  · have drop : ∀ q, gvA X q = true → (s.drop (gvA X)).hp q = none := fun q h => by
      show (if gvA X q = true then none else (s.hp q).map (dropR (gvA X))) = none
      rw [if_pos h]
    rcases houtS r hr with rfl | rfl | ⟨j, hj, rfl⟩
    · have e : hinA P R pbase = some (tyC gvb P.length) := rfl
      rw [e] at hno; cases hno
    · rw [g3]
      exact ⟨drop _ q900, by omega⟩
    · rw [gout j hj]
      exact ⟨drop _ (gvA_row (by omega)), by omega⟩
  · obtain ⟨k1, k2⟩ := hpA_at X s P'
    rcases houtA_some hc with ⟨rfl, rfl⟩ | ⟨rfl, rfl⟩ | ⟨j, hj, rfl, rfl⟩
    · rw [g1, k1]
      simp only [renR, renL, renV, g3]
    · rw [g3, k2]
      simp only [renR]
      rw [rowsC_ren _ (nbase + 1) 1000 P' fun j hj => gout j hj]
    · rw [gout j hj, hpA_row hj hP']
      simp only [renR]
      rw [renL_ints]
  · have k1 := hq pbase rfl
    have k2 := hq nbase rfl
    rw [g1] at k1
    rw [g3] at k2
    unfold hpA
    rw [if_neg (Ne.symm k1), if_neg (Ne.symm k2), if_neg]
    rintro ⟨h4, h5⟩
    have := hq (nbase + 1 + (q - 1000)) (by rw [houtA_row (by omega)]; rfl)
    rw [gout _ (by omega)] at this
    omega
  · rcases hinA_some hc with ⟨rfl, rfl⟩ | ⟨rfl, rfl⟩ | ⟨j, hj, rfl, rfl⟩
    · exact ⟨rfl, rfl⟩
    · refine ⟨rowsC_own _ _ _, rowsC_refs _ _ _ fun j hj => ?_⟩
      rw [hinA_row (by omega)]; rfl
    · exact ⟨ownL_ints _ _, refsL_ints _ _⟩
  · rcases houtA_some hc with ⟨rfl, rfl⟩ | ⟨rfl, rfl⟩ | ⟨j, hj, rfl, rfl⟩
    · rfl
    · exact rowsC_own _ _ _
    · exact ownL_ints _ _
end
end Go.Am

namespace Go.Am
section
attribute [local irreducible] SpH DoneH SpG DoneT
theorem stA_weak {s : AS} {l : List (Nat × AV)} {P : List (List Int)} (hP : P.length ≤ mxA) (hl : HasF s id l) (h1 : s.hp pbase = some (tyC 900 P.length)) (h2 : s.hp 900 = some (false, rowsC 1000 P)) (h3 : ∀ j, j < P.length → s.hp (1000 + j) = some (true, (P.getD j []).map AV.i)) (hr : refsT (fun r => (famH (look [(pbase, tyC 900 P.length), (900, (false, rowsC 1000 P))]) 1000 P r).isSome) l = true) : Weak s (stA l P P) := by
  have hp : pbase = 4000000 := rfl
  have hx : mxA = 1000000 := rfl
  refine weak_G id hl ⟨h1, ?_, trivial⟩ h3 (show [pbase, 900].Nodup by decide) (fun j j' _ _ e => by simp only [id] at e; omega) (fun p hm j hj => ?_) (fun p hm => ?_) (fun j hj => .inl ⟨by omega, by simp only [id]; omega⟩) hr (fun p hm hf => ?_)
  · rw [renL_id]; exact h2
  · simp only [List.mem_cons, List.not_mem_nil, or_false] at hm
    rcases hm with rfl | rfl <;> simp only [id] <;> omega
  · simp only [List.mem_cons, List.not_mem_nil, or_false] at hm
    rcases hm with rfl | rfl
    · exact .inr (.inl ⟨by show pbase ≤ pbase; omega, rfl⟩)
    · exact .inl ⟨by show 900 < pbase; omega, by show 900 < pbase; omega⟩
  · simp only [List.mem_cons, List.not_mem_nil, or_false] at hm
    rcases hm with rfl | rfl
    · rfl
    · refine rowsC_refs _ _ _ fun j hj => ?_
      show (famH _ 1000 P (1000 + j)).isSome = true
      rw [famH_row (look2_none (by omega) (by omega)) (by omega)]
      rfl
/-- What is lent and given beside the lists: values that are read; the pointer; a list that is made for the call. -/
theorem lendH_pt {X : Nat} {s : AS} {P R P' : List (List Int)} (hG : Given s (gvA X) (nmB X P.length) (hinA P R) (houtA P') (hpA X s P') (.tup [])) : LendH1 s.hp (nmB X P.length) (hinA P R) (.pt pbase 0) (.pt pbase 0) := by
  have hin1 : ∀ r c, hinA P R r = some c → (s.hp (nmB X P.length r)).isSome = true := fun r c hc => by rw [hG.has r c hc]; rfl
  have := lendH_ren (x := .pt pbase 0) hin1 rfl rfl
  simp only [renV, (nmB_0 X P.length).1] at this
  exact this
theorem lendH_ro {X : Nat} {s : AS} {P R P' : List (List Int)} (hG : Given s (gvA X) (nmB X P.length) (hinA P R) (houtA P') (hpA X s P') (.tup [])) {x : AV} (ho : ownV true x = true) (hr : refsV (fun r => (hinA P R r).isSome) x = true) (hn : renV (nmB X P.length) x = x) : LendH1 s.hp (nmB X P.length) (hinA P R) x x := by
  have hin1 : ∀ r c, hinA P R r = some c → (s.hp (nmB X P.length r)).isSome = true := fun r c hc => by rw [hG.has r c hc]; rfl
  have := lendH_ren (x := x) hin1 ho hr
  rw [hn] at this
  exact this
theorem lendH_leaf {X : Nat} {s : AS} {P P' : List (List Int)} {M : List Int} (hG : Given s (gvA X) (nmB X P.length) (hinA P (P ++ [M])) (houtA P') (hpA X s P') (.tup [])) : LendH1 s.hp (nmB X P.length) (hinA P (P ++ [M])) (.sl X 1 0 M.length) (.sl (gvb + 1 + P.length) 1 0 M.length) := by
  have hin1 : ∀ r c, hinA P (P ++ [M]) r = some c → (s.hp (nmB X P.length r)).isSome = true := fun r c hc => by rw [hG.has r c hc]; rfl
  have := lendH_ren (x := .sl (gvb + 1 + P.length) 1 0 M.length) hin1 rfl (by
    simp only [refsV]
    rw [hinA_row (by simp)]
    rfl)
  simp only [renV, nmB_new] at this
  exact this
theorem lendH_node {X : Nat} (hX : X < 900) {s : AS} {P P' : List (List Int)} {M : List Int} (hP : P.length ≤ mxA) (hG : Given s (gvA X) (nmB X P.length) (hinA P P) (houtA P') (hpA X s P') (.tup [])) (hM : s.hp X = some (true, M.map AV.i)) : LendH1 s.hp (nmB X P.length) (hinA P P) (.sl X 1 0 M.length) (ints M) := by
  have hpb : pbase = 4000000 := rfl
  have hin1 : ∀ r c, hinA P P r = some c → (s.hp (nmB X P.length r)).isSome = true := fun r c hc => by rw [hG.has r c hc]; rfl
  refine lendH_sl hin1 hM fun r hr e => ?_
  obtain ⟨c, hc⟩ := Option.isSome_iff_exists.1 hr
  obtain ⟨g1, g2, _⟩ := nmB_0 X P.length
  rcases hinA_some hc with ⟨rfl, _⟩ | ⟨rfl, _⟩ | ⟨j, hj, rfl, _⟩
  · rw [g1] at e; omega
  · rw [g2] at e; omega
  · rw [nmB_row hj] at e; omega
theorem stA_givenN {X : Nat} {s : AS} {P P' : List (List Int)} (hX : X < 900) (hP : P.length ≤ mxA) (hP' : P'.length ≤ mxA) (h1 : s.hp pbase = some (tyC 900 P.length)) (h2 : s.hp 900 = some (false, rowsC 1000 P)) (h3 : ∀ j, j < P.length → s.hp (1000 + j) = some (true, (P.getD j []).map AV.i)) :
    Given s (gvA X) (nmB X P.length) (hinA P P) (houtA P') (hpA X s P') (.tup []) :=
  stA_given hX hP (by omega) hP' h1 h2 (fun j hj => by rw [nmB_row hj]; exact h3 j hj) (Nat.le_refl _)
theorem stA_givenL {X : Nat} {s : AS} {P P' : List (List Int)} {M : List Int} (hX : X < 900) (hP : P.length ≤ mxA) (hP' : P'.length ≤ mxA) (h1 : s.hp pbase = some (tyC 900 P.length)) (h2 : s.hp 900 = some (false, rowsC 1000 P)) (h3 : ∀ j, j < P.length → s.hp (1000 + j) = some (true, (P.getD j []).map AV.i)) (hM : s.hp X = some (true, M.map AV.i)) :
    Given s (gvA X) (nmB X P.length) (hinA P (P ++ [M])) (houtA P') (hpA X s P') (.tup []) := by
  refine stA_given hX hP (by simp) hP' h1 h2 (fun j hj => ?_) (by simp)
  by_cases hj' : j < P.length
  · rw [nmB_row hj', h3 j hj']
    simp [List.getElem?_append, hj']
  · have : j = P.length := by simp at hj; omega
    subst this
    rw [nmB_new, hM]
    simp
/-- A nil slice in a cell is a slice of an empty region. -/
theorem weak_nilcellG {s : AS} (fl : Bool) (r q z j : Nat) {cs : List AV} (hr : s.hp r = some (true, cs)) (hq : s.hp q = none) (hqp : q < pbase) (hc : cs[j]? = some (.v (.slice none 0 0))) (hpl : cs.all plainV = true) :
    Weak s ((s.mem q (fl, [])).mem r (false, cs.set j (.sl q z 0 0))) := by
  have hrq : r ≠ q := fun e => by rw [e] at hr; rw [hr] at hq; cases hq
  have hr' : (s.mem q (fl, [])).hp r = some (true, cs) := by rw [hp_mem_ne hrq]; exact hr
  intro w0 mu N a w hS
  obtain ⟨hf, phi, ro, hS⟩ := hS
  have hS1 := hS.born hq hqp (fl, []) none rfl
  rcases hS1.liv r _ hr' with ⟨_, h2, _⟩ | ⟨b, cur, e, h1, h2, h3, h4, h5⟩ | ⟨b, o, h0, _⟩
  case inr.inr => cases h0; simp [plainV] at hpl
  · simp only at h2; rw [h2] at hc; simp at hc
  · refine ⟨hf, _, ro, hS1.write hr' h1 h2 h2 rfl (fun _ _ _ => rfl) rfl rfl rfl (Nat.le_refl _) ?_⟩
    simp only [SimR, if_true, Bool.false_eq_true, if_false] at h5 ⊢
    have h6 := simL_allv (D := ctx w0 w ro (fun p => if p = q then none else phi p) (s.mem q (fl, []))) hpl h5
    obtain ⟨y, k1, k2⟩ := h6.get hc
    simp only [SimV] at k2
    subst k2
    have hlt : j < cs.length := (List.getElem?_eq_some_iff.1 hc).1
    have h7 := h6.set (i := j) (a := .sl q z 0 0) (y := .slice none 0 0) (by simp only [SimV]; exact ⟨rfl, by simp [ctx, AS.mem], .inl (by simp [ctx])⟩) hlt
    have e2 : cur.toList.set j (.slice none 0 0) = cur.toList := by
      apply List.ext_getElem?
      intro i
      rw [List.getElem?_set]
      by_cases e : j = i
      · subst e
        have := (List.getElem?_eq_some_iff.1 k1).1
        simp only [if_true, this, k1]
      · simp [e]
    rw [e2] at h7
    exact h7
/-- Names at the first call: the pointer's region is q0. -/
def nmR (q0 : Nat) : Nat → Nat := fun r => if r = pbase then q0 else if r = gvb then 900 else if r = nbase then 900 else 1000 + (r - (nbase + 1))
def gvR : Nat → Bool := fun r => r == 900
def hpR (q0 : Nat) (s : AS) (P' : List (List Int)) : Hp := fun q => if q = q0 then some (tyC 900 P'.length) else if q = 900 then some (false, rowsC 1000 P') else if 1000 ≤ q ∧ q < 1000 + P'.length then some (true, (P'.getD (q - 1000) []).map AV.i) else (s.drop gvR).hp q
theorem hpR_row {q0 : Nat} (h0 : q0 < 900) {s : AS} {P' : List (List Int)} {j : Nat} (hj : j < P'.length) : hpR q0 s P' (1000 + j) = some (true, (P'.getD j []).map AV.i) := by
  unfold hpR
  rw [if_neg (by omega), if_neg (by omega), if_pos (by omega), Nat.add_sub_cancel_left]
theorem stA_given0 {q0 : Nat} (hq0 : q0 < 900) {s : AS} {P' : List (List Int)} (hP' : P'.length ≤ mxA) (h1 : s.hp q0 = some (tyC 900 0)) (h2 : s.hp 900 = some (false, [])) (h3 : ∀ j, j < P'.length → s.hp (1000 + j) = none) :
    Given s gvR (nmR q0) (hinA [] []) (houtA P') (hpR q0 s P') (.tup []) := by
  have hp : pbase = 4000000 := rfl
  have hn : nbase = 8000000 := rfl
  have hg : gvb = 16000000 := rfl
  have hx : mxA = 1000000 := rfl
  have g1 : nmR q0 pbase = q0 := rfl
  have g2 : nmR q0 gvb = 900 := rfl
  have g3 : nmR q0 nbase = 900 := rfl
  have gout : ∀ j, nmR q0 (nbase + 1 + j) = 1000 + j ∨ nbase + 1 + j = gvb := fun j => by
    by_cases e : nbase + 1 + j = gvb
    · exact .inr e
    · unfold nmR
      exact .inl (by rw [if_neg (by omega), if_neg e, if_neg (by omega), Nat.add_sub_cancel_left])
  have gout : ∀ j, j < P'.length → nmR q0 (nbase + 1 + j) = 1000 + j := fun j hj => (gout j).resolve_right (by omega)
  have qq : gvR q0 = false := by unfold gvR; simp; omega
  have hinS : ∀ r, (hinA [] [] r).isSome = true → r = pbase ∨ r = gvb := by
    intro r hr
    obtain ⟨c, hc⟩ := Option.isSome_iff_exists.1 hr
    rcases hinA_some hc with ⟨h, _⟩ | ⟨h, _⟩ | ⟨j, h, _⟩
    · exact .inl h
    · exact .inr h
    · simp at h
  have houtV : ∀ r, (houtA P' r).isSome = true → (r = pbase ∧ nmR q0 r = q0) ∨ (r = nbase ∧ nmR q0 r = 900) ∨ ∃ j, j < P'.length ∧ r = nbase + 1 + j ∧ nmR q0 r = 1000 + j := by
    intro r hr
    obtain ⟨c, hc⟩ := Option.isSome_iff_exists.1 hr
    rcases houtA_some hc with ⟨h, _⟩ | ⟨h, _⟩ | ⟨j, h, h', _⟩
    · exact .inl ⟨h, by rw [h]; exact g1⟩
    · exact .inr (.inl ⟨h, by rw [h]; exact g3⟩)
    · exact .inr (.inr ⟨j, h, h', by rw [h']; exact gout j h⟩)
  refine ⟨fun r c hc => ?_, fun r hr => ?_, fun r hr hge => ?_, fun r r' hr hr' e => ?_, fun r r' hr hr' e => ?_, fun r hr hlt => ?_, fun r hr => ?_, fun r hr hno => ?_, fun r c hc => ?_, fun q hq => ?_, fun r c hc => ?_, fun r c hc => ?_, rfl⟩
  · rcases hinA_some hc with ⟨rfl, rfl⟩ | ⟨rfl, rfl⟩ | ⟨j, hj, _⟩
    · rw [g1, h1]
      rfl
    · rw [g2, h2]
      rfl
    · simp at hj
  · rcases hinS r hr with rfl | rfl
    · rw [g1, qq]
      exact ⟨fun h => (by cases h), fun h => by omega⟩
    · rw [g2]
      exact ⟨fun _ => Nat.le_refl _, fun _ => rfl⟩
  · refine .inl ?_
    rcases hinS r hr with rfl | rfl
    · omega
    · rw [g2]; omega
  · rcases hinS r hr with rfl | rfl <;> rcases hinS r' hr' with rfl | rfl
    · rfl
    · rw [g1, g2] at e; omega
    · rw [g1, g2] at e; omega
    · rfl
  · rcases houtV r hr with ⟨a, b⟩ | ⟨a, b⟩ | ⟨j, h, a, b⟩ <;> rcases houtV r' hr' with ⟨a', b'⟩ | ⟨a', b'⟩ | ⟨j', h', a', b'⟩ <;> omega
  · rcases hinS r hr with rfl | rfl
    · rfl
    · omega
  · rcases houtV r hr with ⟨a, b⟩ | ⟨a, b⟩ | ⟨j, h, a, b⟩ <;> omega
  · rcases houtV r hr with ⟨rfl, b⟩ | ⟨rfl, b⟩ | ⟨j, h, rfl, b⟩
    · have e : hinA [] [] pbase = some (tyC gvb 0) := rfl
      rw [e] at hno; cases hno
    · exact ⟨rfl, by rw [b]; omega⟩
    · rw [b]
      refine ⟨?_, by omega⟩
      show (if gvR (1000 + j) = true then none else (s.hp (1000 + j)).map (dropR gvR)) = none
      rw [h3 j h]
      split <;> rfl
  · have k1 : hpR q0 s P' q0 = some (tyC 900 P'.length) := by unfold hpR; rw [if_pos rfl]
    have k2 : hpR q0 s P' 900 = some (false, rowsC 1000 P') := by unfold hpR; rw [if_neg (by omega), if_pos rfl]
    rcases houtA_some hc with ⟨rfl, rfl⟩ | ⟨rfl, rfl⟩ | ⟨j, hj, rfl, rfl⟩
    · rw [g1, k1]
      rfl
    · rw [g3, k2]
      simp only [renR]
      rw [rowsC_ren _ (nbase + 1) 1000 P' fun j hj => gout j hj]
    · rw [gout j hj, hpR_row hq0 hj]
      simp only [renR]
      rw [renL_ints]
  · have k1 := hq pbase rfl
    have k2 := hq nbase rfl
    rw [g1] at k1
    rw [g3] at k2
    unfold hpR
    rw [if_neg (Ne.symm k1), if_neg (Ne.symm k2), if_neg]
    rintro ⟨h4, h5⟩
    have := hq (nbase + 1 + (q - 1000)) (by rw [houtA_row (by omega)]; rfl)
    rw [gout _ (by omega)] at this
    omega
  · rcases hinA_some hc with ⟨rfl, rfl⟩ | ⟨rfl, rfl⟩ | ⟨j, hj, _⟩
    · exact ⟨rfl, rfl⟩
    · exact ⟨rfl, rfl⟩
    · simp at hj
  · rcases houtA_some hc with ⟨rfl, rfl⟩ | ⟨rfl, rfl⟩ | ⟨j, hj, rfl, rfl⟩
    · rfl
    · exact rowsC_own _ _ _
    · exact ownL_ints _ _
theorem lendH_nil0 {hp : Hp} {g : Nat → Nat} {hin : Hp} : LendH1 hp g hin (.v (.slice none 0 0)) (ints []) := by
  intro w0 mu N tm w phi ro v hS h
  simp only [SimV] at h ⊢
  exact .inl ⟨rfl, rfl, none, 0, h, by simp⟩
theorem hin0_live {q0 : Nat} {hp : Hp} {c1 c2 : Bool × List AV} (h1 : hp q0 = some c1) (h2 : hp 900 = some c2) : ∀ r c, hinA [] [] r = some c → (hp (nmR q0 r)).isSome = true := by
  intro r c hc
  rcases hinA_some hc with ⟨rfl, _⟩ | ⟨rfl, _⟩ | ⟨j, hj, _⟩
  · show (hp q0).isSome = true
    rw [h1]; rfl
  · show (hp 900).isSome = true
    rw [h2]; rfl
  · simp at hj
end
end Go.Am
