/- Contracts: exchanges are told. -/
import Derived.Test.YtlmoopejihmhbaaSpA
namespace Go.Proofs.Ytlmoopejihmhbaa
open Go.Am
attribute [local irreducible] AW Outs Weak Lends Lend Sp aops atree aop1 Then Round InBlock Done

/-- What an exchange is. -/
def IsEx (L : List Int) : Prop := 1 ≤ L.length ∧ L.length ≤ 12 ∧ (∀ x ∈ L, 0 ≤ x ∧ x < L.length) ∧ L.Nodup
instance (L : List Int) : Decidable (IsEx L) := inferInstanceAs (Decidable (_ ∧ _ ∧ _ ∧ _))

/-- Which coats the first k guests take. -/
def taken (L : List Int) (k : Nat) : List Bool := (List.range 12).map fun (i : Nat) => decide ((i : Int) ∈ L.take k)
theorem taken_len (L : List Int) (k : Nat) : (taken L k).length = 12 := by simp [taken]
theorem taken_get (L : List Int) (k : Nat) (i : Nat) (h : i < 12) : (taken L k)[i]? = some (decide ((i : Int) ∈ L.take k)) := by simp [taken, h]
theorem taken_set (L : List Int) (k : Nat) (hk : k < L.length) (i : Nat) (hi : L.getD k 0 = i) : (taken L k).set i true = taken L (k + 1) := by
  apply List.ext_getElem?
  intro j
  rw [List.getElem?_set]
  by_cases hj : j < 12
  · rw [taken_get L (k + 1) j hj, taken_get L k j hj, taken_len, take_snoc L k 0 hk]
    by_cases hij : i = j
    · subst hij
      simp only [hj, if_true, List.mem_append, List.mem_singleton, hi, or_true, decide_true]
    · have : ¬ (j : Int) = L.getD k 0 := by omega
      simp only [hij, if_false, List.mem_append, List.mem_singleton, this, or_false]
  · have h1 : (taken L (k + 1))[j]? = none := List.getElem?_eq_none (by rw [taken_len]; omega)
    have h2 : (taken L k)[j]? = none := List.getElem?_eq_none (by rw [taken_len]; omega)
    rw [h1, h2, taken_len]
    by_cases hij : i = j
    · subst hij; simp only [hj, if_true, if_false]
    · simp only [hij, if_false]

theorem not_nodup {L : List Int} {k : Nat} (hk : k < L.length) (h : L.getD k 0 ∈ L.take k) : ¬ L.Nodup := by
  intro hn
  rw [← List.take_append_drop k L, List.nodup_append] at hn
  refine hn.2.2 _ h _ ?_ rfl
  have : L.drop k = L.getD k 0 :: L.drop (k + 1) := by rw [List.drop_eq_getElem_cons hk]; simp [hk]
  rw [this]
  exact List.mem_cons_self ..

theorem nodup_snoc {L : List Int} {k : Nat} (hk : k < L.length) (hn : (L.take k).Nodup) (h : L.getD k 0 ∉ L.take k) : (L.take (k + 1)).Nodup := by
  rw [take_snoc L k 0 hk, List.nodup_append]
  refine ⟨hn, by simp, ?_⟩
  intro a ha b hb hab
  rw [List.mem_singleton] at hb
  subst hb
  exact h (hab ▸ ha)

end Go.Proofs.Ytlmoopejihmhbaa
