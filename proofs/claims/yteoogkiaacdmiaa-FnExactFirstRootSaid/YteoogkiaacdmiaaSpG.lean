/- Contracts: exchanges taken back. -/
import Derived.Test.YteoogkiaacdmiaaSpF
namespace Go.Proofs.Yteoogkiaacdmiaa
open Go.Am
attribute [local irreducible] AW Outs Weak Lends Lend Sp aops atree aop1 Then Round InBlock Done

/-- What is written back behind k guests. -/
def backW (L : List Int) (k : Nat) : List Int := (List.range k).foldl (fun acc (i : Nat) => acc.set (L.getD i 0).toNat (i : Int)) (List.replicate L.length 0)
theorem backW_zero (L : List Int) : backW L 0 = List.replicate L.length 0 := rfl
theorem backW_succ (L : List Int) (k i : Nat) (hi : L.getD k 0 = i) : backW L (k + 1) = (backW L k).set i (k : Int) := by
  unfold backW; rw [List.range_succ, List.foldl_append, List.foldl_cons, List.foldl_nil, hi]; rfl
theorem backW_len (L : List Int) (k : Nat) : (backW L k).length = L.length := by
  induction k with
  | zero => simp [backW]
  | succ k ih => unfold backW at ih ⊢; rw [List.range_succ, List.foldl_append, List.foldl_cons, List.foldl_nil, List.length_set]; exact ih
def backRes (L : List Int) : List Int := if IsEx L then backW L L.length else []
theorem backRes_le (L : List Int) : (backRes L).length ≤ L.length := by
  unfold backRes; split
  · rw [backW_len]; exact Nat.le_refl _
  · simp

end Go.Proofs.Yteoogkiaacdmiaa
