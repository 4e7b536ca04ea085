/- Contracts: what the laws' helpers write and find. -/
import Derived.Test.YtgjlaajkakecpaaSpA
namespace Go.Proofs.Ytgjlaajkakecpaa
open Go.Am
attribute [local irreducible] AW Outs Weak Lends Lend Sp aops atree aop1 Then Round InBlock Done
attribute [local irreducible] SpM DoneM

/-- k, k+1, .. -/
def marks (k : Int) (n : Nat) : List Int := (List.range n).map fun (i : Nat) => k + i
theorem marks_len (k : Int) (n : Nat) : (marks k n).length = n := by simp [marks]
theorem marks_succ (k : Int) (n : Nat) : marks k (n + 1) = marks k n ++ [k + n] := by simp [marks, List.range_succ]
/-- A list whose first j numbers are marked. -/
def marked (L : List Int) (k : Int) (j : Nat) : List Int := marks k j ++ L.drop j
theorem marked_len (L : List Int) (k : Int) (j : Nat) (h : j ≤ L.length) : (marked L k j).length = L.length := by simp [marked, marks_len]; omega
theorem marked_zero (L : List Int) (k : Int) : marked L k 0 = L := by simp [marked, marks]
theorem marked_all (L : List Int) (k : Int) : marked L k L.length = marks k L.length := by simp [marked]
theorem marked_set (L : List Int) (k : Int) (j : Nat) (h : j < L.length) : (marked L k j).set j (k + j) = marked L k (j + 1) := by
  unfold marked
  rw [List.set_append_right _ _ (by rw [marks_len]; omega), marks_len, Nat.sub_self, List.drop_eq_getElem_cons h, List.set_cons_zero, marks_succ]
  simp

end Go.Proofs.Ytgjlaajkakecpaa
