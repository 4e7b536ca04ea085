/- Lists in which each guest has a drawer of a plan, counted in order and by the plan's rows. No program. -/
import Derived.Test.YtefnllmplhefeaaMaSt
namespace Go.Am
/-- May a drawer have the number of the next guest? -/
def fitsP (M : List (List Int)) (l : List Int) (y : Nat) : Bool := decide ((y : Int) ∈ M.getD l.length []) && !decide ((y : Int) ∈ l)
/-- How many go on from a list with a drawer. -/
def winW (M : List (List Int)) (n k : Nat) (U : List Int) (x : Int) : Nat := (goOn (fitsP M) n k (U ++ [x])).length
/-- Over the first j of a row. -/
def winTo (M : List (List Int)) (n k : Nat) (U R : List Int) : Nat → Nat
  | 0 => 0
  | j + 1 => if R.getD j 0 ∈ U then winTo M n k U R j else winTo M n k U R j + winW M n k U (R.getD j 0)
theorem winTo_flat (M : List (List Int)) (n k : Nat) (U R : List Int) (j : Nat) (hj : j ≤ R.length) :
    winTo M n k U R j = (((R.take j).filter fun x => !decide (x ∈ U)).flatMap fun x => goOn (fitsP M) n k (U ++ [x])).length := by
  induction j with
  | zero => simp [winTo]
  | succ j ih =>
    rw [winTo, take_snoc R j 0 (by omega), List.filter_append, List.flatMap_append, List.length_append, ← ih (by omega)]
    by_cases h : R.getD j 0 ∈ U
    · rw [if_pos h]; simp only [List.filter_cons, h, decide_true, Bool.not_true, Bool.false_eq_true, if_false, List.filter_nil, List.flatMap_nil, List.length_nil, Nat.add_zero]
    · rw [if_neg h]; simp only [List.filter_cons, h, decide_false, Bool.not_false, if_true, List.filter_nil, List.flatMap_cons, List.flatMap_nil, List.append_nil]; rfl
theorem win_all (M : List (List Int)) (n k : Nat) (U R : List Int) (hR : M.getD U.length [] = R) (hb : ∀ x ∈ R, 0 ≤ x ∧ x < (n : Int)) (hn : R.Nodup) :
    winTo M n k U R R.length = (goOn (fitsP M) n (k + 1) U).length := by
  rw [winTo_flat _ _ _ _ _ _ (Nat.le_refl _), List.take_length, goOn]
  have e : ((List.range n).filter fun x => fitsP M U x).flatMap (fun (x : Nat) => goOn (fitsP M) n k (U ++ [(x : Int)])) =
      (((List.range n).filter fun x => fitsP M U x).map fun (x : Nat) => (x : Int)).flatMap fun x => goOn (fitsP M) n k (U ++ [x]) := by
    rw [List.flatMap_map]
  rw [e]
  refine List.Perm.length_eq (List.Perm.flatMap_right _ ?_)
  refine (List.perm_ext_iff_of_nodup (hn.filter _) ?_).2 fun x => ?_
  · rw [List.Nodup, List.pairwise_map]
    refine List.Pairwise.imp ?_ ((List.nodup_range (n := n)).filter _)
    intro a b hab h
    exact hab (by omega)
  · simp only [List.mem_filter, List.mem_map, List.mem_range, fitsP, Bool.and_eq_true, decide_eq_true_eq, Bool.not_eq_true', decide_eq_false_iff_not, hR]
    constructor
    · rintro ⟨h1, h2⟩
      have := hb x h1
      have e : ((x.toNat : Nat) : Int) = x := Int.toNat_of_nonneg this.1
      exact ⟨x.toNat, ⟨by omega, by rw [e]; exact ⟨h1, h2⟩⟩, e⟩
    · rintro ⟨a, ⟨_, h2⟩, rfl⟩
      exact h2
theorem goOn_pow (fits : List Int → Nat → Bool) (n : Nat) : ∀ (k : Nat) (l : List Int), (goOn fits n k l).length ≤ n ^ k
  | 0, l => by simp [goOn]
  | k + 1, l => by
    rw [goOn]
    refine Nat.le_trans (flatMap_le _ (n ^ k) _ fun x _ => goOn_pow fits n k _) ?_
    rw [Nat.pow_succ, Nat.mul_comm (n ^ k)]
    refine Nat.mul_le_mul_right _ ?_
    exact Nat.le_trans (List.length_filter_le ..) (by simp)
theorem pow7_le : ∀ n < 8, ∀ k < 8, n ^ k ≤ 823543 := by decide +kernel
theorem goOn_le7 (fits : List Int → Nat → Bool) {n k : Nat} (l : List Int) (hn : n ≤ 7) (hk : k ≤ 7) : (goOn fits n k l).length ≤ 823543 :=
  Nat.le_trans (goOn_pow fits n k l) (pow7_le n (by omega) k (by omega))
theorem winTo_le (M : List (List Int)) (n k : Nat) (U R : List Int) (hn : n ≤ 7) (hk : k ≤ 7) (j : Nat) : winTo M n k U R j ≤ j * 823543 := by
  induction j with
  | zero => simp [winTo]
  | succ j ih =>
    have h : winW M n k U (R.getD j 0) ≤ 823543 := goOn_le7 (fitsP M) (n := n) (k := k) (U ++ [R.getD j 0]) hn hk
    have e : winTo M n k U R (j + 1) = if R.getD j 0 ∈ U then winTo M n k U R j else winTo M n k U R j + winW M n k U (R.getD j 0) := rfl
    rw [e, Nat.add_mul, Nat.one_mul]
    generalize winW M n k U (R.getD j 0) = a at *
    generalize winTo M n k U R j = b at *
    generalize j * 823543 = c at *
    split <;> omega
/-- All lists go on with numbers below n, none twice. -/
theorem goP_ok (M : List (List Int)) (n : Nat) : ∀ (k : Nat) (U : List Int), (∀ x ∈ U, 0 ≤ x ∧ x < (n : Int)) → ∀ m ∈ goOn (fitsP M) n k U, m.length = U.length + k ∧ ∀ x ∈ m, 0 ≤ x ∧ x < (n : Int)
  | 0, U, h, m, hm => by
    simp only [goOn, List.mem_singleton] at hm
    subst hm
    exact ⟨rfl, h⟩
  | k + 1, U, h, m, hm => by
    simp only [goOn, List.mem_flatMap, List.mem_filter, List.mem_range] at hm
    obtain ⟨y, ⟨hy, _⟩, hm⟩ := hm
    obtain ⟨h1, h2⟩ := goP_ok M n k (U ++ [(y : Int)]) (fun x hx => by
      rw [List.mem_append, List.mem_singleton] at hx
      rcases hx with hx | rfl
      · exact h x hx
      · omega) m hm
    refine ⟨by rw [h1, List.length_append, List.length_singleton]; omega, h2⟩
end Go.Am
