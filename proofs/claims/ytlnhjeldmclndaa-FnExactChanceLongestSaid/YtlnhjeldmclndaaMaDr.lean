/- Exchanges with chains of some lengths alone, counted by the length of the chain of one guest: integers alone. No program. -/
import Derived.Test.YtlnhjeldmclndaaMaI
namespace Go.Am
/-- The first j terms, the least length first. -/
def cPart (w : List Int) (lo n : Nat) : Nat → Int
  | 0 => 0
  | j + 1 => cPart w lo n j + fac (n - 1) / fac (n - (lo + j)) * w.getD (n - (lo + j)) 0
/-- The counts of 0, 1, .. n guests. -/
def cntT (lo hi : Nat) : Nat → List Int
  | 0 => [1]
  | n + 1 => cntT lo hi n ++ [cPart (cntT lo hi n) lo (n + 1) (min hi (n + 1) + 1 - lo)]
theorem cntT_len (lo hi n : Nat) : (cntT lo hi n).length = n + 1 := by
  induction n with
  | zero => rfl
  | succ n ih => rw [cntT, List.length_append, ih]; rfl
def CB (w : List Int) : Prop := ∀ m < w.length, 0 ≤ w.getD m 0 ∧ w.getD m 0 ≤ fac m
theorem fac_pos (n : Nat) : 1 ≤ fac n := by
  induction n with
  | zero => decide
  | succ n ih =>
    have h : (1 : Int) * 1 ≤ fac n * ((n : Int) + 1) := Int.mul_le_mul ih (by omega) (by decide) (by omega)
    exact h
theorem cTerm_le {w : List Int} {n k : Nat} (hw : CB w) (h1 : 1 ≤ k) (hk : k ≤ n) (hl : w.length = n) :
    0 ≤ fac (n - 1) / fac (n - k) * w.getD (n - k) 0 ∧ fac (n - 1) / fac (n - k) * w.getD (n - k) 0 ≤ fac (n - 1) := by
  obtain ⟨h2, h3⟩ := hw (n - k) (by omega)
  have h4 := fac_pos (n - k)
  have h5 := fac_pos (n - 1)
  have h6 : 0 ≤ fac (n - 1) / fac (n - k) := Int.ediv_nonneg (by omega) (by omega)
  refine ⟨Int.mul_nonneg h6 h2, Int.le_trans (Int.mul_le_mul_of_nonneg_left h3 h6) ?_⟩
  exact Int.ediv_mul_le _ (by omega)
theorem cPart_le {w : List Int} {lo n : Nat} (hw : CB w) (hlo : 1 ≤ lo) (hl : w.length = n) (j : Nat) (hj : lo + j ≤ n + 1) : 0 ≤ cPart w lo n j ∧ cPart w lo n j ≤ j * fac (n - 1) := by
  induction j with
  | zero => simp [cPart]
  | succ j ih =>
    have h1 := ih (by omega)
    have h2 := cTerm_le (k := lo + j) hw (by omega) (by omega) hl
    rw [cPart]
    have e : ((j + 1 : Nat) : Int) * fac (n - 1) = (j : Int) * fac (n - 1) + fac (n - 1) := by push_cast; rw [Int.add_mul, Int.one_mul]
    rw [e]
    omega
theorem fac_succ (n : Nat) (h : 1 ≤ n) : fac n = n * fac (n - 1) := by
  obtain ⟨m, rfl⟩ : ∃ m, n = m + 1 := ⟨n - 1, by omega⟩
  rw [Nat.add_sub_cancel, Int.mul_comm]
  show fac m * ((m : Int) + 1) = _
  push_cast; rfl
theorem cPart_fac {w : List Int} {lo n : Nat} (hw : CB w) (hlo : 1 ≤ lo) (hl : w.length = n) (j : Nat) (hj : lo + j ≤ n + 1) : 0 ≤ cPart w lo n j ∧ cPart w lo n j ≤ fac n := by
  obtain ⟨h1, h2⟩ := cPart_le hw hlo hl j hj
  refine ⟨h1, Int.le_trans h2 ?_⟩
  rcases Nat.eq_zero_or_pos n with h0 | h0
  · have : j = 0 := by omega
    subst this; have := fac_pos n; simp; omega
  · rw [fac_succ n h0]
    exact Int.mul_le_mul_of_nonneg_right (by omega) (by have := fac_pos (n - 1); omega)
theorem cntT_cb (lo hi n : Nat) (hlo : 1 ≤ lo) : CB (cntT lo hi n) := by
  induction n with
  | zero =>
    intro m hm
    have : m = 0 := by simp [cntT] at hm; omega
    subst this; simp [cntT, fac]
  | succ n ih =>
    intro m hm
    rw [cntT_len] at hm
    have hl := cntT_len lo hi n
    by_cases e : m = n + 1
    · subst e
      have e2 : (cntT lo hi (n + 1)).getD (n + 1) 0 = cPart (cntT lo hi n) lo (n + 1) (min hi (n + 1) + 1 - lo) := by
        rw [cntT, List.getD_eq_getElem?_getD, List.getElem?_append_right (by omega), hl]; simp
      rw [e2]
      by_cases c : lo ≤ min hi (n + 1) + 1
      · exact cPart_fac ih hlo hl _ (by omega)
      · have : min hi (n + 1) + 1 - lo = 0 := by omega
        rw [this]; have := fac_pos (n + 1); simp only [cPart]; omega
    · have e2 : (cntT lo hi (n + 1)).getD m 0 = (cntT lo hi n).getD m 0 := by
        rw [cntT, List.getD_eq_getElem?_getD, List.getElem?_append_left (by omega), ← List.getD_eq_getElem?_getD]
      rw [e2]
      exact ih m (by omega)
theorem cntT_snoc (lo hi n : Nat) : cntT lo hi (n + 1) = cntT lo hi n ++ [cPart (cntT lo hi n) lo (n + 1) (min hi (n + 1) + 1 - lo)] := rfl
/-- The row of counts of g guests as it is filled: behind n guests, and behind j terms of the next. -/
def cntW (lo hi g n : Nat) : List Int := cntT lo hi n ++ List.replicate (g - n) 0
def cntI (lo hi g n j : Nat) : List Int := cntT lo hi n ++ cPart (cntT lo hi n) lo (n + 1) j :: List.replicate (g - n - 1) 0
theorem cntW_len (lo hi g n : Nat) (h : n ≤ g) : (cntW lo hi g n).length = g + 1 := by simp [cntW, cntT_len]; omega
theorem cntI_len (lo hi g n j : Nat) (h : n < g) : (cntI lo hi g n j).length = g + 1 := by simp [cntI, cntT_len]; omega
theorem cntI_zero (lo hi g n : Nat) (h : n < g) : cntI lo hi g n 0 = cntW lo hi g n := by
  unfold cntI cntW
  rw [show g - n = (g - n - 1) + 1 by omega, List.replicate_succ]; rfl
theorem cntI_all (lo hi g n : Nat) : cntI lo hi g n (min hi (n + 1) + 1 - lo) = cntW lo hi g (n + 1) := by
  unfold cntI cntW
  rw [cntT_snoc, List.append_assoc, List.singleton_append, Nat.sub_sub]
theorem cntI_at (lo hi g n j : Nat) : (cntI lo hi g n j).getD (n + 1) 0 = cPart (cntT lo hi n) lo (n + 1) j := by
  unfold cntI
  rw [List.getD_eq_getElem?_getD, List.getElem?_append_right (by rw [cntT_len]; omega), cntT_len]; simp
theorem cntI_get (lo hi g n j m : Nat) (h : m ≤ n) : (cntI lo hi g n j).getD m 0 = (cntT lo hi n).getD m 0 := by
  unfold cntI
  rw [List.getD_eq_getElem?_getD, List.getElem?_append_left (by rw [cntT_len]; omega), ← List.getD_eq_getElem?_getD]
theorem cntI_set (lo hi g n j : Nat) (x : Int) (h : x = cPart (cntT lo hi n) lo (n + 1) (j + 1)) : (cntI lo hi g n j).set (n + 1) x = cntI lo hi g n (j + 1) := by
  subst h
  unfold cntI
  rw [List.set_append_right _ _ (by rw [cntT_len]; omega), cntT_len]; simp
theorem cntW_end (lo hi g : Nat) : cntW lo hi g g = cntT lo hi g := by simp [cntW]
/-- So many of g guests. -/
def cntN (lo hi g : Nat) : Int := (cntT lo hi g).getD g 0
theorem cntN_le (lo hi g : Nat) (hlo : 1 ≤ lo) (hg : g ≤ 12) : 0 ≤ cntN lo hi g ∧ cntN lo hi g ≤ 479001600 := by
  have := cntT_cb lo hi g hlo g (by rw [cntT_len]; omega)
  have := fac_le g (by omega)
  unfold cntN; omega
theorem cntT_max (lo : Nat) {hi g : Nat} (n : Nat) (h : n ≤ hi) (h2 : n ≤ g) : cntT lo hi n = cntT lo g n := by
  induction n with
  | zero => rfl
  | succ n ih => rw [cntT_snoc, cntT_snoc, ih (by omega) (by omega), Nat.min_eq_right h, Nat.min_eq_right h2]
/-- A list as it is written, behind k rounds. -/
def filled (L : List Int) (k : Nat) : List Int := L.take k ++ List.replicate (L.length - k) 0
theorem filled_len (L : List Int) (k : Nat) (h : k ≤ L.length) : (filled L k).length = L.length := by simp [filled]; omega
theorem filled_set (L : List Int) (k : Nat) (h : k < L.length) : (filled L k).set k (L.getD k 0) = filled L (k + 1) := by
  unfold filled
  have e : L.length - k = (L.length - (k + 1)) + 1 := by omega
  have e2 : k - (L.take k).length = 0 := by simp; omega
  rw [take_snoc L k 0 h, e, List.replicate_succ, List.set_append_right _ _ (by simp; omega), e2]
  simp
end Go.Am
