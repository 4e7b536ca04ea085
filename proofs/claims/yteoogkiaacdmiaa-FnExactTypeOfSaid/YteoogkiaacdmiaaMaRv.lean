/- A list reversed in place. No program. -/
import Derived.Test.YteoogkiaacdmiaaMaI
namespace Go.Am
/-- A list whose first k and last k numbers have changed places. -/
def revK (L : List Int) (k : Nat) : List Int := (List.range L.length).map fun i => if i < k ∨ L.length - 1 - i < k then L.getD (L.length - 1 - i) 0 else L.getD i 0
theorem revK_len (L : List Int) (k : Nat) : (revK L k).length = L.length := by simp [revK]
theorem revK_get (L : List Int) (k i : Nat) (hi : i < L.length) : (revK L k)[i]? = some (if i < k ∨ L.length - 1 - i < k then L.getD (L.length - 1 - i) 0 else L.getD i 0) := by simp [revK, hi]
theorem revK_getD (L : List Int) (k i : Nat) (hi : i < L.length) : (revK L k).getD i 0 = if i < k ∨ L.length - 1 - i < k then L.getD (L.length - 1 - i) 0 else L.getD i 0 := by
  rw [List.getD_eq_getElem?_getD, revK_get L k i hi]; rfl
theorem revK_zero (L : List Int) : revK L 0 = L := by
  apply List.ext_getElem?
  intro i
  by_cases hi : i < L.length
  · rw [revK_get L 0 i hi, if_neg (by omega)]
    simp [hi]
  · rw [List.getElem?_eq_none (by rw [revK_len]; omega), List.getElem?_eq_none (by omega)]
theorem revK_set (L : List Int) (k : Nat) (h : k < L.length - 1 - k) : ((revK L k).set k (L.getD (L.length - 1 - k) 0)).set (L.length - 1 - k) (L.getD k 0) = revK L (k + 1) := by
  apply List.ext_getElem?
  intro i
  by_cases hi : i < L.length
  · rw [revK_get L (k + 1) i hi, List.getElem?_set, List.getElem?_set, revK_get L k i hi, List.length_set, revK_len]
    by_cases h1 : L.length - 1 - k = i
    · subst h1
      rw [if_pos rfl, if_pos hi, if_pos (by omega), show L.length - 1 - (L.length - 1 - k) = k by omega]
    · rw [if_neg h1]
      by_cases h2 : k = i
      · subst h2
        rw [if_pos rfl, if_pos hi, if_pos (by omega)]
      · rw [if_neg h2]
        by_cases h3 : i < k ∨ L.length - 1 - i < k
        · rw [if_pos h3, if_pos (by omega)]
        · rw [if_neg h3, if_neg (by omega)]
  · rw [List.getElem?_eq_none (by rw [List.length_set, List.length_set, revK_len]; omega), List.getElem?_eq_none (by rw [revK_len]; omega)]
theorem revK_end (L : List Int) (k : Nat) (h : ¬ k < L.length - 1 - k) : revK L k = L.reverse := by
  apply List.ext_getElem?
  intro i
  by_cases hi : i < L.length
  · rw [revK_get L k i hi, List.getElem?_reverse hi]
    by_cases h3 : i < k ∨ L.length - 1 - i < k
    · rw [if_pos h3]
      have : L.length - 1 - i < L.length := by omega
      simp [this]
    · rw [if_neg h3]
      have e : L.length - 1 - i = i := by omega
      rw [e]
      simp [hi]
  · rw [List.getElem?_eq_none (by rw [revK_len]; omega), List.getElem?_eq_none (by rw [List.length_reverse]; omega)]
end Go.Am
