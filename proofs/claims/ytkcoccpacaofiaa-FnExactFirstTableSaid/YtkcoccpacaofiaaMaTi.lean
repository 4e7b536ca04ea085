/- Where the guest 0 sits at a table, and at the table told backwards. No program. -/
import Derived.Test.YtkcoccpacaofiaaMaTe
namespace Go.Am
theorem tab_rev {L : List Int} (h : IsTab L) : IsTab L.reverse := by
  refine ⟨by rw [List.length_reverse]; exact h.1, by rw [List.length_reverse]; exact h.2.1, by rw [List.length_reverse]; exact h.2.2.1, fun x hx => ?_, List.pairwise_reverse.2 (h.2.2.2.2.imp Ne.symm)⟩
  rw [List.length_reverse]
  exact h.2.2.2.1 x (List.mem_reverse.1 hx)
theorem tab_notin {L : List Int} (h : IsTab L) {k : Nat} (hk : k < L.length) : L.getD k 0 ∉ L.take k := by
  intro hm
  obtain ⟨i, hi, e⟩ := List.getElem_of_mem hm
  rw [List.length_take] at hi
  have hik : i < k := by omega
  have e2 : L.getD i 0 = L.getD k 0 := by
    rw [← e, List.getElem_take, List.getD_eq_getElem?_getD, List.getElem?_eq_getElem (by omega), Option.getD_some]
  have := tab_inj h (by omega) hk e2
  omega
theorem rev_getD (L : List Int) {k : Nat} (hk : k < L.length) : L.reverse.getD (L.length - 1 - k) 0 = L.getD k 0 := by
  have e1 : L.length - 1 - (L.length - 1 - k) = k := by omega
  have e2 : L.length - 1 - k < L.length := by omega
  simp [List.getD, e1, hk, List.getElem?_reverse e2]
theorem ordL_at {a b : List Int} {k : Nat} (hc : k < a.length) (hl : a.length = b.length) (he : a.take k = b.take k) (hx : a.getD k 0 ≠ b.getD k 0) : ordL a b = if a.getD k 0 < b.getD k 0 then -1 else 1 := by
  have h1 : a = a.take k ++ a.getD k 0 :: a.drop (k + 1) := by
    have h2 := List.take_append_drop (k + 1) a
    rw [take_snoc a k 0 hc, List.append_assoc] at h2
    exact h2.symm
  have h2 : b = a.take k ++ b.getD k 0 :: b.drop (k + 1) := by
    have h2 := List.take_append_drop (k + 1) b
    rw [take_snoc b k 0 (by omega), List.append_assoc, ← he] at h2
    exact h2.symm
  have h3 : comesB a b = decide (a.getD k 0 < b.getD k 0) := by
    conv => lhs; rw [h1, h2]
    rw [comesB_append]
    simp only [comesB, if_neg hx]
  have h4 : comesB b a = decide (b.getD k 0 < a.getD k 0) := by
    conv => lhs; rw [h1, h2]
    rw [comesB_append]
    simp only [comesB, if_neg (Ne.symm hx)]
  unfold ordL
  rw [h3, h4]
  by_cases h5 : a.getD k 0 < b.getD k 0
  · rw [if_pos (decide_eq_true h5), if_pos h5]
  · rw [if_neg (by simpa using h5), if_neg h5, if_pos (decide_eq_true (by omega))]
theorem ordL_same {a : List Int} : ordL a a = 0 := by
  unfold ordL
  rw [comesB_self]
  rfl
theorem ordL_neg {a b : List Int} : ordL a b < 0 ↔ comesB a b = true := by
  unfold ordL
  split
  · rename_i h; simp [h]
  · rename_i h
    split <;> simp [h]
end Go.Am
