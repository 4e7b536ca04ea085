/- Sums of the first numbers of a type. -/
import Derived.Test.YtnfaljjlpphgiaaStG
namespace Go.Proofs.Ytnfaljjlpphgiaa
open Go.Am
attribute [local irreducible] AW Outs Weak Lends Lend Sp aops atree aop1 Then Round InBlock Done

theorem sum_split (K : List Int) (h : ∀ x ∈ K, 1 ≤ x) (k : Nat) : 0 ≤ (K.take k).sum ∧ (k : Nat) ≤ (K.take k).sum + (k - K.length : Nat) ∧ (K.take k).sum + (K.length - k : Nat) ≤ K.sum := by
  have hs : ∀ l : List Int, (∀ x ∈ l, 1 ≤ x) → (l.length : Int) ≤ l.sum := by
    intro l
    induction l with
    | nil => intro _; simp
    | cons a l ih =>
      intro h
      have h1 := h a (List.mem_cons_self ..)
      have h2 := ih fun x hx => h x (List.mem_cons_of_mem _ hx)
      rw [List.sum_cons, List.length_cons]; omega
  have h1 := hs (K.take k) fun x hx => h x (List.mem_of_mem_take hx)
  have h2 := hs (K.drop k) fun x hx => h x (List.mem_of_mem_drop hx)
  have e : K.sum = (K.take k).sum + (K.drop k).sum := by rw [← List.sum_append, List.take_append_drop]
  rw [List.length_take] at h1
  rw [List.length_drop] at h2
  omega
end Go.Proofs.Ytnfaljjlpphgiaa
