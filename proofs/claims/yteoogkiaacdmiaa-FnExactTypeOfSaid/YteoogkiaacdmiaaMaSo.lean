/- Lists that are sorted in place by putting each number in. No program. -/
import Derived.Test.YteoogkiaacdmiaaAmA
namespace Go.Am
/-- The first i numbers of a list are in order, but for the one at j, which is not greater than those behind it. -/
def SoI (L cur : List Int) (i j : Nat) : Prop := cur.Perm L ∧ ∀ p q, p < q → q < i → q ≠ j → cur.getD p 0 ≤ cur.getD q 0
theorem soI_len {L cur : List Int} {i j : Nat} (h : SoI L cur i j) : cur.length = L.length := h.1.length_eq
/-- Two neighbours change places. -/
def swp (cur : List Int) (j : Nat) : List Int := (cur.set (j + 1) (cur.getD j 0)).set j (cur.getD (j + 1) 0)
theorem swp_get (cur : List Int) (j p : Nat) (h : j + 1 < cur.length) : (swp cur j).getD p 0 = if p = j then cur.getD (j + 1) 0 else if p = j + 1 then cur.getD j 0 else cur.getD p 0 := by
  unfold swp
  simp only [List.getD_eq_getElem?_getD, List.getElem?_set]
  by_cases h1 : p = j
  · subst h1
    simp [show p < cur.length by omega]
  · by_cases h2 : p = j + 1
    · subst h2
      have h3 : ¬ j = j + 1 := by omega
      simp [h, h3]
    · have h3 : ¬ j = p := fun e => h1 e.symm
      have h4 : ¬ j + 1 = p := fun e => h2 e.symm
      simp [h1, h2, h3, h4]
theorem swp_perm (cur : List Int) (j : Nat) (h : j + 1 < cur.length) : (swp cur j).Perm cur := by
  have := List.set_set_perm (as := cur) (i := j + 1) (j := j) h (by omega)
  unfold swp
  rw [List.getD_eq_getElem?_getD, List.getD_eq_getElem?_getD, List.getElem?_eq_getElem h, List.getElem?_eq_getElem (by omega)]
  exact this
theorem soI_start {L cur : List Int} {i : Nat} (hp : cur.Perm L) (h : ∀ p q, p < q → q < i → cur.getD p 0 ≤ cur.getD q 0) : SoI L cur (i + 1) i := ⟨hp, fun p q h1 h2 h3 => h p q h1 (by omega)⟩
theorem soI_swap {L cur : List Int} {i j : Nat} (h : SoI L cur i (j + 1)) (hj : j + 1 < i) (hi : i ≤ L.length) (hlt : cur.getD (j + 1) 0 < cur.getD j 0) : SoI L (swp cur j) i j := by
  obtain ⟨hp, hs⟩ := h
  have hl := hp.length_eq
  have hjl : j + 1 < cur.length := by omega
  refine ⟨(swp_perm cur j hjl).trans hp, fun p q h1 h2 h3 => ?_⟩
  rw [swp_get _ _ _ hjl, swp_get _ _ _ hjl, if_neg h3]
  by_cases e : q = j + 1
  · rw [if_pos e]
    by_cases e2 : p = j
    · rw [if_pos e2]; omega
    · rw [if_neg e2, if_neg (by omega)]
      exact hs p j (by omega) (by omega) (by omega)
  · rw [if_neg e]
    by_cases e2 : p = j
    · rw [if_pos e2]
      exact hs (j + 1) q (by omega) h2 e
    · rw [if_neg e2]
      by_cases e3 : p = j + 1
      · rw [if_pos e3]; exact hs j q (by omega) h2 e
      · rw [if_neg e3]; exact hs p q h1 h2 e
theorem soI_end0 {L cur : List Int} {i : Nat} (h : SoI L cur i 0) : ∀ p q, p < q → q < i → cur.getD p 0 ≤ cur.getD q 0 := fun p q h1 h2 => h.2 p q h1 h2 (by omega)
theorem soI_end {L cur : List Int} {i j : Nat} (h : SoI L cur i (j + 1)) (hj : j + 1 < i) (hle : cur.getD j 0 ≤ cur.getD (j + 1) 0) : ∀ p q, p < q → q < i → cur.getD p 0 ≤ cur.getD q 0 := by
  intro p q h1 h2
  by_cases e : q = j + 1
  · subst e
    by_cases e2 : p = j
    · rw [e2]; exact hle
    · exact Int.le_trans (h.2 p j (by omega) (by omega) (by omega)) hle
  · exact h.2 p q h1 h2 e
/-- In order. -/
def Asc (l : List Int) : Prop := l.Pairwise (· ≤ ·)
theorem asc_of {l : List Int} (h : ∀ p q, p < q → q < l.length → l.getD p 0 ≤ l.getD q 0) : Asc l := by
  unfold Asc
  rw [List.pairwise_iff_getElem]
  intro i j hi hj hij
  have := h i j hij hj
  simpa [List.getD_eq_getElem?_getD, hi, hj] using this
/-- Lists of the same numbers, none less than the one behind, are the same. -/
theorem desc_eq {a b : List Int} (hp : a.Perm b) (ha : a.Pairwise (· ≥ ·)) (hb : b.Pairwise (· ≥ ·)) : a = b :=
  hp.eq_of_pairwise (fun x y _ _ h1 h2 => by omega) ha hb
theorem asc_eq {a b : List Int} (hp : a.Perm b) (ha : Asc a) (hb : Asc b) : a = b :=
  hp.eq_of_pairwise (fun x y _ _ h1 h2 => by omega) ha hb
theorem asc_rev {a : List Int} (h : Asc a) : a.reverse.Pairwise (· ≥ ·) := by
  rw [List.pairwise_reverse]; exact h
/-- The list in order. -/
def srt (L : List Int) : List Int := L.mergeSort (fun a b => decide (a ≤ b))
theorem srt_perm (L : List Int) : (srt L).Perm L := List.mergeSort_perm _ _
theorem srt_asc (L : List Int) : Asc (srt L) := by
  have := List.pairwise_mergeSort (le := fun a b : Int => decide (a ≤ b)) (fun a b c h1 h2 => by simp at *; omega) (fun a b => by simp; omega) L
  unfold Asc srt
  exact this.imp fun h => by simpa using h
theorem srt_of {L l : List Int} (hp : l.Perm L) (h : Asc l) : l = srt L := asc_eq (hp.trans (srt_perm L).symm) h (srt_asc L)
theorem srt_len (L : List Int) : (srt L).length = L.length := (srt_perm L).length_eq
end Go.Am
