/- All seatings of some guests, counted and weighed by how many are displaced: what the law asks. -/
import Derived.Test.YtamgcjdmcmbffaaMaSgA
import Derived.Test.YtamgcjdmcmbffaaMaSgB
import Derived.Test.YtamgcjdmcmbffaaMaSgC
import Derived.Test.YtamgcjdmcmbffaaMaSgD
import Derived.Test.YtamgcjdmcmbffaaMaSgE
set_option linter.unusedSectionVars false
namespace Go.Proofs.Ytamgcjdmcmbffaa
variable [Go.Am.CodeBlk]
open Go.Am
theorem sg_facts : ∀ g < 8, 1 ≤ g → ∀ l < g + 1, sgTest g l = true := fun g hg h1 l hl => by
  by_cases h : g < 7
  · exact sg_a g h h1 l hl
  · obtain rfl : g = 7 := by omega
    by_cases h4 : l < 4
    · exact sg_b l h4
    · have h : l = 4 ∨ l = 5 ∨ l = 6 ∨ l = 7 := by omega
      rcases h with rfl | rfl | rfl | rfl
      · exact sg_4
      · exact sg_5
      · exact sg_6
      · exact sg_7
/-- What the law asks of all seatings of so many guests. -/
structure SgF (g l : Nat) (R : List (List Int)) : Prop where
  cnt : ((R.length : Nat) : Int) = cntS l (g - l)
  all : sumL (wS (fcN g) (l : Int)) R = fcN g
  mean : sumL (fun M => (g - sgD M) * wS (fcN g) (l : Int) M) R * (meanOf g l g).2 = (meanOf g l g).1 * fcN g
  row : ∀ M ∈ R, fcN g % prodS (l : Int) M M.length = 0 ∧ 1 ≤ prodS (l : Int) M M.length ∧ sgD M < g + 1 ∧ sgD M ≠ 1
theorem sgFacts {g l : Nat} (h8 : g < 8) (h1 : 1 ≤ g) (hl : l < g + 1) : SgF g l (allS (l : Int) g) := by
  have h := sg_facts g h8 h1 l hl
  have he := sgAll_eq (l : Int) g (fcN g) (allS (l : Int) g)
  unfold sgTest at h
  rw [sgGo_eq] at h
  change (match sgAll (l : Int) g (fcN g) (allS (l : Int) g) with
    | (a, b, c, d) => decide (((a : Nat) : Int) = cntS l (g - l)) && (decide (b = fcN g) && (decide (c * (meanOf g l g).2 = (meanOf g l g).1 * fcN g) && d))) = true at h
  generalize sgAll (l : Int) g (fcN g) (allS (l : Int) g) = x at h he
  obtain ⟨a, b, c, d⟩ := x
  simp only [Bool.and_eq_true, decide_eq_true_eq] at h he
  obtain ⟨e1, e2, e3, e4⟩ := he
  exact ⟨by rw [← e1]; exact h.1, by rw [← e2]; exact h.2.1, by rw [← e3]; exact h.2.2.1, e4 h.2.2.2⟩
/-- How many seatings have so many displaced, and what they are worth. -/
def sgN (l : Int) (R : List (List Int)) (k : Nat) : Nat := (R.filter (keepD ((k : Nat) : Int))).length
def sgW (g l : Nat) (R : List (List Int)) (k : Nat) : Nat := sumL (wS (fcN g) (l : Int)) (R.filter (keepD ((k : Nat) : Int)))
theorem sgN_sum {g l : Nat} {R : List (List Int)} (F : SgF g l R) : sumTo (sgN (l : Int) R) (g + 1) = R.length := by
  have h := sum_parts (fun _ => 1) (fun _ => 1) sgD (g + 1) R fun M hM => (F.row M hM).2.2.1
  rw [sumL_one] at h
  rw [← h]
  refine sumTo_congr fun k _ => ?_
  unfold sgN
  rw [keepD_eq, sumL_one, Nat.one_mul]
theorem sgW_sum {g l : Nat} {R : List (List Int)} (F : SgF g l R) : sumTo (sgW g l R) (g + 1) = fcN g := by
  have h := sum_parts (fun _ => 1) (wS (fcN g) (l : Int)) sgD (g + 1) R fun M hM => (F.row M hM).2.2.1
  simp only [Nat.one_mul] at h
  rw [show sumL (wS (fcN g) (l : Int)) R = fcN g from F.all] at h
  rw [← h]
  refine sumTo_congr fun k _ => ?_
  unfold sgW
  rw [keepD_eq]
theorem sgM_sum {g l : Nat} {R : List (List Int)} (F : SgF g l R) : sumTo (fun k => (g - k) * sgW g l R k) (g + 1) * (meanOf g l g).2 = (meanOf g l g).1 * fcN g := by
  have h := sum_parts (fun k => g - k) (wS (fcN g) (l : Int)) sgD (g + 1) R fun M hM => (F.row M hM).2.2.1
  rw [← F.mean, ← h]
  congr 1
  refine sumTo_congr fun k _ => ?_
  unfold sgW
  rw [keepD_eq]
theorem sg_val {g l : Nat} {R : List (List Int)} (F : SgF g l R) (k : Nat) : Val (fcN g) (sumC (l : Int) (R.filter (keepD ((k : Nat) : Int)))) (sgW g l R k) :=
  val_sum fun M hM => ⟨(F.row M (List.mem_filter.1 hM).1).1, (F.row M (List.mem_filter.1 hM).1).2.1⟩
theorem sg_none {g l : Nat} {R : List (List Int)} (F : SgF g l R) : sgN (l : Int) R 1 = 0 := by
  unfold sgN
  rw [keepD_eq]
  refine List.length_eq_zero_iff.2 (List.filter_eq_nil_iff.2 fun M hM h => ?_)
  exact (F.row M hM).2.2.2 (of_decide_eq_true h)
end Go.Proofs.Ytamgcjdmcmbffaa
