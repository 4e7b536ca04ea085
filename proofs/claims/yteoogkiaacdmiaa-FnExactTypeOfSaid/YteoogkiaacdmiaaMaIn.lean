/- Numbers put into a list from the greatest one down. No program. -/
import Derived.Test.YteoogkiaacdmiaaAmN
namespace Go.Am
/-- How many numbers of a list stay before a number that is put in. -/
def insK (O : List Int) (n : Int) : Nat → Nat
  | 0 => 0
  | k + 1 => if O.getD k 0 < n then insK O n k else k + 1
def insT (O : List Int) (n : Int) : List Int := O.take (insK O n O.length) ++ [n] ++ O.drop (insK O n O.length)
/-- The lengths of the first k chains, the longest first. -/
def tyOfN (R : List (List Int)) : Nat → List Int
  | 0 => []
  | k + 1 => insT (tyOfN R k) (R.getD k []).length
theorem insK_le (O : List Int) (n : Int) : ∀ k, insK O n k ≤ k
  | 0 => Nat.le_refl _
  | k + 1 => by
    rw [insK]
    have := insK_le O n k
    split <;> omega
theorem insT_len (O : List Int) (n : Int) : (insT O n).length = O.length + 1 := by
  have := insK_le O n O.length
  unfold insT
  simp
  omega
theorem insT_at {O : List Int} {n : Int} {J : Nat} (h : insK O n O.length = J) : insT O n = O.take J ++ [n] ++ O.drop J := by subst h; rfl
theorem tyOfN_len (R : List (List Int)) : ∀ k, (tyOfN R k).length = k
  | 0 => rfl
  | k + 1 => by rw [tyOfN, insT_len, tyOfN_len R k]
theorem lend_slt {hp : Hp} {r j : Nat} {O : List Int} (hr : hp r = some (true, O.map AV.i)) (hj : j ≤ O.length) : Lend hp (.sl r 1 0 j) (ints (O.take j)) := by
  have h := lend_sl (z := 1) (off := 0) (n := j) hr (by simp; omega) (allv_ints O)
  have e : (((O.map AV.i).drop 0).take (j * 1)) = (O.take j).map AV.i := by rw [List.drop_zero, Nat.mul_one, List.map_take]
  rw [e] at h
  have hl : (O.take j).length = j := by rw [List.length_take]; omega
  show Lend hp (.sl r 1 0 j) (.ro false 1 ((O.take j).map AV.i) (O.take j).length)
  rw [hl]
  exact h
theorem insT_perm (O : List Int) (n : Int) : (insT O n).Perm (n :: O) := by
  unfold insT
  have h := List.take_append_drop (insK O n O.length) O
  generalize O.take (insK O n O.length) = A at *
  generalize O.drop (insK O n O.length) = B at *
  subst h
  rw [List.append_assoc]
  exact List.perm_middle
theorem insK_at (O : List Int) (n : Int) : ∀ k, (∀ i, insK O n k ≤ i → i < k → O.getD i 0 < n) ∧ (0 < insK O n k → n ≤ O.getD (insK O n k - 1) 0)
  | 0 => ⟨fun i _ h => absurd h (by omega), fun h => by simp [insK] at h⟩
  | k + 1 => by
    obtain ⟨h1, h2⟩ := insK_at O n k
    rw [insK]
    split
    · rename_i hlt
      refine ⟨fun i hi hk => ?_, h2⟩
      by_cases e : i = k
      · rw [e]; exact hlt
      · exact h1 i hi (by omega)
    · rename_i hlt
      exact ⟨fun i hi hk => by omega, fun _ => by rw [Nat.add_sub_cancel]; omega⟩
theorem insT_desc {O : List Int} (n : Int) (h : O.Pairwise (· ≥ ·)) : (insT O n).Pairwise (· ≥ ·) := by
  obtain ⟨h1, h2⟩ := insK_at O n O.length
  have hle := insK_le O n O.length
  have hg : ∀ i j, i < j → j < O.length → O.getD j 0 ≤ O.getD i 0 := by
    intro i j hij hj
    have := (List.pairwise_iff_getElem.1 h) i j (by omega) hj hij
    simpa [List.getD_eq_getElem?_getD, hj, show i < O.length by omega] using this
  unfold insT
  generalize insK O n O.length = J at *
  rw [List.append_assoc, List.pairwise_append]
  refine ⟨h.sublist (List.take_sublist _ _), ?_, fun a ha b hb => ?_⟩
  · rw [List.singleton_append, List.pairwise_cons]
    refine ⟨fun b hb => ?_, h.sublist (List.drop_sublist _ _)⟩
    obtain ⟨i, hi, rfl⟩ := List.mem_iff_getElem.1 hb
    rw [List.length_drop] at hi
    rw [List.getElem_drop]
    have := h1 (J + i) (by omega) (by omega)
    rw [List.getD_eq_getElem?_getD, List.getElem?_eq_getElem (by omega)] at this
    have e : (some O[J + i]).getD 0 = O[J + i] := rfl
    rw [e] at this
    omega
  · obtain ⟨i, hi, rfl⟩ := List.mem_iff_getElem.1 ha
    rw [List.length_take] at hi
    rw [List.getElem_take]
    have hia : O.getD i 0 = O[i] := by rw [List.getD_eq_getElem?_getD, List.getElem?_eq_getElem (by omega)]; rfl
    have hn : n ≤ O[i] := by
      rw [← hia]
      have h3 := h2 (by omega)
      by_cases e : i = J - 1
      · rw [e]; exact h3
      · have := hg i (J - 1) (by omega) (by omega); omega
    rw [List.singleton_append, List.mem_cons] at hb
    rcases hb with rfl | hb
    · exact hn
    · obtain ⟨j, hj, rfl⟩ := List.mem_iff_getElem.1 hb
      rw [List.length_drop] at hj
      rw [List.getElem_drop]
      have := hg i (J + j) (by omega) (by omega)
      rw [hia, List.getD_eq_getElem?_getD, List.getElem?_eq_getElem (by omega)] at this
      exact this
theorem tyOfN_desc (R : List (List Int)) : ∀ k, k ≤ R.length → (tyOfN R k).Pairwise (· ≥ ·) ∧ (tyOfN R k).Perm ((R.take k).map fun r => (r.length : Int))
  | 0, _ => by simp [tyOfN]
  | k + 1, hk => by
    obtain ⟨h1, h2⟩ := tyOfN_desc R k (by omega)
    rw [tyOfN]
    refine ⟨insT_desc _ h1, (insT_perm _ _).trans ?_⟩
    rw [List.take_add_one, List.getElem?_eq_getElem (by omega), List.map_append]
    have e : R.getD k [] = R[k] := by rw [List.getD_eq_getElem?_getD, List.getElem?_eq_getElem (by omega)]; rfl
    rw [e]
    exact (h2.cons _).trans (List.perm_append_singleton _ _).symm
theorem rowT_atF {rows : List (List Int)} {k : Nat} (h : k < rows.length) : ((rows.map newInts).drop k)[0]? = some (newInts (rows.getD k [])) := by
  rw [List.getElem?_drop, Nat.add_zero, List.getElem?_map, List.getElem?_eq_getElem h, List.getD_eq_getElem?_getD, List.getElem?_eq_getElem h]; rfl
end Go.Am
