/- Counts of exchanges without own coats, as integers alone. -/
import Derived.Test.YtgjlaajkakecpaaAmMb
namespace Go.Am
def fac : Nat → Int
  | 0 => 1
  | n + 1 => fac n * (n + 1)
theorem fac_le : ∀ n < 13, 1 ≤ fac n ∧ fac n ≤ 479001600 := by decide +kernel
/-- The two last numbers of exchanges without own coats. -/
def nn : Nat → Int × Int
  | 0 => (1, 0)
  | j + 1 => ((nn j).2, ((j : Int) + 2 - 1) * ((nn j).1 + (nn j).2))
theorem nn_le : ∀ n < 13, (0 ≤ (nn n).1 ∧ (nn n).1 ≤ 10000000000) ∧ 0 ≤ (nn n).2 ∧ (nn n).2 ≤ 10000000000 := by decide +kernel
def noneN (n : Nat) : Int := if n = 0 then 1 else (nn (n - 1)).2

def facs (g : Nat) : List Int := (List.range (g + 1)).map fac
/-- A row behind j steps from above. -/
def apIn (w : List Int) (g : Nat) : Nat → List Int
  | 0 => w
  | j + 1 => (apIn w g j).set (g - j) ((apIn w g j).getD (g - j) 0 - (apIn w g j).getD (g - j - 1) 0)
def apOut (g : Nat) : Nat → List Int
  | 0 => facs g
  | s + 1 => apIn (apOut g s) g g
theorem apIn_len (w : List Int) (g j : Nat) : (apIn w g j).length = w.length := by
  induction j with
  | zero => rfl
  | succ j ih => rw [apIn, List.length_set, ih]
theorem apOut_len (g s : Nat) : (apOut g s).length = g + 1 := by
  induction s with
  | zero => simp [apOut, facs]
  | succ s ih => rw [apOut, apIn_len, ih]
theorem getD_set (l : List Int) (n i : Nat) (a : Int) (h : n < l.length) : (l.set n a).getD i 0 = if i = n then a else l.getD i 0 := by
  rw [List.getD_eq_getElem?_getD, List.getD_eq_getElem?_getD, List.getElem?_set]
  by_cases e : n = i
  · subst e; simp [h]
  · have e' : ¬ i = n := fun h => e h.symm
    simp [e, e']
theorem apIn_get (w : List Int) (g j : Nat) (hj : j ≤ g) (hl : w.length = g + 1) (i : Nat) : (apIn w g j).getD i 0 = if g - j < i ∧ i ≤ g then w.getD i 0 - w.getD (i - 1) 0 else w.getD i 0 := by
  induction j generalizing i with
  | zero => rw [apIn, if_neg (by omega)]
  | succ j ih =>
    rw [apIn, getD_set _ _ _ _ (by rw [apIn_len]; omega), ih (by omega), ih (by omega), ih (by omega)]
    by_cases e : i = g - j
    · subst e
      rw [if_pos rfl, if_neg (by omega), if_neg (by omega), if_pos (by omega)]
    · rw [if_neg e]
      by_cases c : g - j < i ∧ i ≤ g
      · rw [if_pos c, if_pos (by omega)]
      · rw [if_neg c, if_neg (by omega)]
def Bound (w : List Int) (B : Int) : Prop := ∀ i, -B ≤ w.getD i 0 ∧ w.getD i 0 ≤ B
theorem apIn_bound {w : List Int} {g j : Nat} {B : Int} (_hB : 0 ≤ B) (hj : j ≤ g) (hl : w.length = g + 1) (h : Bound w B) : Bound (apIn w g j) (2 * B) := by
  intro i
  rw [apIn_get w g j hj hl]
  have h1 := h i
  have h2 := h (i - 1)
  split <;> omega
theorem facs_bound (g : Nat) (hg : g ≤ 12) : Bound (facs g) 479001600 := by
  intro i
  by_cases h : i < g + 1
  · have := fac_le i (by omega)
    have e : (facs g).getD i 0 = fac i := by simp [facs, h]
    rw [e]; omega
  · have e : (facs g).getD i 0 = 0 := by simp [facs, h]
    rw [e]; omega
def cap : Nat → Int
  | 0 => 479001600
  | s + 1 => 2 * cap s
theorem cap_le : ∀ s < 14, 0 ≤ cap s ∧ cap s ≤ 10000000000000 := by decide +kernel
theorem apOut_bound (g s : Nat) (hg : g ≤ 12) (hs : s ≤ 13) : Bound (apOut g s) (cap s) := by
  induction s with
  | zero => exact facs_bound g hg
  | succ s ih => exact apIn_bound (cap_le s (by omega)).1 (Nat.le_refl _) (apOut_len g s) (ih (by omega))

/-- The row as it is filled. -/
def facW (g k : Nat) : List Int := (List.range k).map fac ++ List.replicate (g + 1 - k) 0
theorem facW_len (g k : Nat) (h : k ≤ g + 1) : (facW g k).length = g + 1 := by simp [facW]; omega
theorem facW_set (g k : Nat) (h : k < g + 1) : (facW g k).set k (fac k) = facW g (k + 1) := by
  unfold facW
  have e : g + 1 - k = (g + 1 - (k + 1)) + 1 := by omega
  rw [List.range_succ, List.map_append, e, List.replicate_succ, List.set_append_right _ _ (by simp)]
  simp

end Go.Am
