/- Contracts: what the laws' helpers do with matrices. -/
import Derived.Test.YteoogkiaacdmiaaSpE
import Derived.Test.YteoogkiaacdmiaaAmR
namespace Go.Proofs.Yteoogkiaacdmiaa
open Go.Am
attribute [local irreducible] AW Outs Weak Lends Lend Sp aops atree aop1 Then Round InBlock Done
attribute [local irreducible] SpM DoneM SpH DoneH

def tot : List (List Int) → Nat
  | [] => 0
  | r :: rs => r.length + tot rs
theorem tot_snoc (rs : List (List Int)) (r : List Int) : tot (rs ++ [r]) = tot rs + r.length := by
  induction rs with
  | nil => simp [tot]
  | cons x rs ih => simp only [List.cons_append, tot, ih]; omega
theorem tot_take_le (rs : List (List Int)) (j : Nat) : tot (rs.take j) ≤ tot rs := by
  induction rs generalizing j with
  | nil => simp [tot]
  | cons x rs ih =>
    cases j with
    | zero => simp [tot]
    | succ j => simp only [List.take_succ_cons, tot]; have := ih j; omega
theorem len_tot {rs : List (List Int)} {j : Nat} (h : j < rs.length) : tot (rs.take j) + (rs.getD j []).length ≤ tot rs := by
  have := tot_take_le rs (j + 1)
  rw [take_snoc rs j [] h, tot_snoc] at this
  exact this
theorem tot_le {rs : List (List Int)} {n m : Nat} (h : rs.length ≤ n) (hr : ∀ r ∈ rs, r.length ≤ m) : tot rs ≤ n * m := by
  induction rs generalizing n with
  | nil => simp [tot]
  | cons r rs ih =>
    cases n with
    | zero => simp at h
    | succ n =>
      have h1 := ih (n := n) (by simpa using h) fun x hx => hr x (List.mem_cons_of_mem _ hx)
      have h2 := hr r (List.mem_cons_self ..)
      simp only [tot]
      rw [Nat.succ_mul]; omega
/-- Each row marked on. -/
def mkM (k : Int) : List (List Int) → List (List Int)
  | [] => []
  | r :: rs => marks k r.length :: mkM (k + r.length) rs
theorem mkM_len (k : Int) (rs : List (List Int)) : (mkM k rs).length = rs.length := by
  induction rs generalizing k with
  | nil => rfl
  | cons r rs ih => simp [mkM, ih]
theorem mkM_snoc (k : Int) (rs : List (List Int)) (r : List Int) : mkM k (rs ++ [r]) = mkM k rs ++ [marks (k + tot rs) r.length] := by
  induction rs generalizing k with
  | nil => simp [mkM, tot]
  | cons x rs ih => simp only [List.cons_append, mkM, ih, tot]; congr 4; simp; omega
theorem mkM_rowlen (k : Int) (rs : List (List Int)) (j : Nat) : ((mkM k rs).getD j []).length = (rs.getD j []).length := by
  induction rs generalizing k j with
  | nil => rfl
  | cons r rs ih =>
    cases j with
    | zero => simp [mkM, marks_len]
    | succ j => simpa [mkM] using ih (k + r.length) j
theorem mkM_tot (k : Int) (rs : List (List Int)) : tot (mkM k rs) = tot rs := by
  induction rs generalizing k with
  | nil => rfl
  | cons r rs ih => simp only [mkM, tot, ih, marks_len]
/-- The first j rows marked. -/
def partM (k : Int) (rs : List (List Int)) (j : Nat) : List (List Int) := mkM k (rs.take j) ++ rs.drop j
theorem partM_len (k : Int) (rs : List (List Int)) (j : Nat) (h : j ≤ rs.length) : (partM k rs j).length = rs.length := by simp [partM, mkM_len]; omega
theorem partM_succ (k : Int) (rs : List (List Int)) (j : Nat) (h : j < rs.length) : partM k rs (j + 1) = (partM k rs j).set j (marks (k + tot (rs.take j)) (rs.getD j []).length) := by
  unfold partM
  rw [take_snoc rs j [] h, mkM_snoc, List.set_append_right _ _ (by rw [mkM_len]; simp; omega), mkM_len, List.length_take_of_le (by omega), Nat.sub_self, List.drop_eq_getElem_cons h, List.set_cons_zero]
  simp
theorem partM_at (k : Int) (rs : List (List Int)) (j : Nat) (h : j < rs.length) : (partM k rs j).getD j [] = rs.getD j [] := by
  unfold partM
  rw [List.getD_eq_getElem?_getD, List.getElem?_append_right (by rw [mkM_len]; simp; omega), mkM_len, List.length_take_of_le (by omega), Nat.sub_self, List.drop_eq_getElem_cons h]
  simp [h]

end Go.Proofs.Yteoogkiaacdmiaa
