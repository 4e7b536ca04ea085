/- Contracts: own coats. -/
import Derived.Test.YteoogkiaacdmiaaSpE
import Derived.Test.YteoogkiaacdmiaaSpB
namespace Go.Proofs.Yteoogkiaacdmiaa
open Go.Am
attribute [local irreducible] AW Outs Weak Lends Lend Sp aops atree aop1 Then Round InBlock Done

/-- Those of the first k guests who have their own coats. -/
def ownList (L : List Int) (k : Nat) : List Int := ((List.range k).filter fun (i : Nat) => decide (L.getD i 0 = i)).map fun (i : Nat) => (i : Int)
theorem ownList_yes {L : List Int} {k : Nat} (h : L.getD k 0 = k) : ownList L (k + 1) = ownList L k ++ [(k : Int)] := by
  unfold ownList; rw [List.range_succ, List.filter_append, List.map_append, List.filter_cons_of_pos (p := fun (i : Nat) => decide (L.getD i 0 = (i : Int))) (a := k) (decide_eq_true h)]; rfl
theorem ownList_no {L : List Int} {k : Nat} (h : ¬ L.getD k 0 = k) : ownList L (k + 1) = ownList L k := by
  unfold ownList; rw [List.range_succ, List.filter_append, List.map_append, List.filter_cons_of_neg (p := fun (i : Nat) => decide (L.getD i 0 = (i : Int))) (a := k) (fun e => h (of_decide_eq_true e))]; simp
theorem ownList_le (L : List Int) (k : Nat) : (ownList L k).length ≤ k := by
  unfold ownList; rw [List.length_map]; exact Nat.le_trans (List.length_filter_le ..) (by simp)

/-- What OwnCoats tells. -/
def ownRes (L : List Int) : List Int := if IsEx L then ownList L L.length else []
theorem ownRes_le (L : List Int) : (ownRes L).length ≤ L.length := by
  unfold ownRes; split
  · exact ownList_le L _
  · simp

end Go.Proofs.Yteoogkiaacdmiaa
