/- Sums of chances: the denominators divide a factorial. No program. -/
import Derived.Test.YtpefdmmnimmpiaaMaSt
namespace Go.Am
def lowN (a b : Nat) : Nat × Nat := (a / Nat.gcd a b, b / Nat.gcd a b)
/-- The product of the numbers of all seats that were free for the first k. -/
def downTo (n : Nat) : Nat → Nat
  | 0 => 1
  | k + 1 => downTo n k * (n - k)
theorem downTo_fct (n : Nat) : ∀ k, k ≤ n → downTo n k * fct (n - k) = fct n
  | 0, _ => by simp [downTo]
  | k + 1, h => by
    have ih := downTo_fct n k (by omega)
    obtain ⟨m, hm⟩ : ∃ m, n - k = m + 1 := ⟨n - k - 1, by omega⟩
    have e : n - (k + 1) = m := by omega
    rw [← ih, downTo, e, hm]
    show downTo n k * (m + 1) * fct m = downTo n k * ((m + 1) * fct m)
    rw [Nat.mul_assoc]
theorem prodS_dvd (l : Int) (L : List Int) : ∀ k, prodS l L k ∣ downTo L.length k
  | 0 => Nat.dvd_refl _
  | k + 1 => by
    have ih := prodS_dvd l L k
    simp only [prodS, downTo]
    split
    · exact Nat.mul_dvd_mul_right ih _
    · exact Nat.dvd_trans ih (Nat.dvd_mul_right _ _)
theorem prodS_fct (l : Int) (L : List Int) : prodS l L L.length ∣ fct L.length := by
  have h := downTo_fct L.length L.length (Nat.le_refl _)
  rw [Nat.sub_self] at h
  have := prodS_dvd l L L.length
  rw [← h]
  exact Nat.dvd_trans this (Nat.dvd_mul_right _ _)

/-- The sum with one more chance. -/
def addC (p : Nat × Nat) (c : Nat) : Nat × Nat := lowN (p.1 * c + 1 * p.2) (p.2 * c)
/-- What is kept of a sum of j chances whose denominators divide D. -/
def SumOk (D j : Nat) (p : Nat × Nat) : Prop := 1 ≤ p.2 ∧ p.2 ∣ D ∧ p.1 ≤ j * p.2
theorem addC_ok {D j : Nat} {p : Nat × Nat} {c : Nat} (hp : SumOk D j p) (hc : c ∣ D) (h1 : 1 ≤ c) : SumOk D (j + 1) (addC p c) := by
  obtain ⟨a, b⟩ := p
  obtain ⟨hb, hbD, ha⟩ := hp
  simp only at hb hbD ha
  unfold addC lowN SumOk
  simp only [Nat.one_mul]
  have hbc : 0 < b * c := Nat.mul_pos hb h1
  have hg : 0 < Nat.gcd (a * c + b) (b * c) := Nat.gcd_pos_of_pos_right _ hbc
  obtain ⟨u, hu⟩ := Nat.gcd_dvd_left (a * c + b) (b * c)
  obtain ⟨v, hv⟩ := Nat.gcd_dvd_right (a * c + b) (b * c)
  have hcop : Nat.gcd ((a * c + b) / Nat.gcd (a * c + b) (b * c)) ((b * c) / Nat.gcd (a * c + b) (b * c)) = 1 := Nat.gcd_div_gcd_div_gcd_of_pos_right hbc
  generalize hG : Nat.gcd (a * c + b) (b * c) = g at *
  have e1 : (a * c + b) / g = u := by rw [hu]; exact Nat.mul_div_cancel_left _ hg
  have e2 : (b * c) / g = v := by rw [hv]; exact Nat.mul_div_cancel_left _ hg
  rw [e1, e2] at hcop ⊢
  obtain ⟨x, hx⟩ := hbD
  obtain ⟨y, hy⟩ := hc
  refine ⟨?_, ?_, ?_⟩
  · rcases Nat.eq_zero_or_pos v with h | h
    · rw [h] at hv; omega
    · exact h
  · have k1 : (a * c + b) * D = (a * x + y) * (b * c) := by
      have h1 : a * c * D = a * x * (b * c) := by
        rw [hx]; ac_rfl
      have h2 : b * D = y * (b * c) := by
        rw [hy]; ac_rfl
      rw [Nat.add_mul, Nat.add_mul, h1, h2]
    rw [hu, hv] at k1
    have k2 : u * D = (a * x + y) * v := by
      have : g * (u * D) = g * ((a * x + y) * v) := by
        rw [← Nat.mul_assoc, k1]; ac_rfl
      exact Nat.eq_of_mul_eq_mul_left hg this
    have k3 : v ∣ u * D := by rw [k2]; exact Nat.dvd_mul_left _ _
    exact (Nat.Coprime.symm hcop).dvd_of_dvd_mul_left k3
  · have k1 : a * c + b ≤ (j + 1) * (b * c) := by
      have h2 : a * c ≤ j * b * c := Nat.mul_le_mul_right c ha
      have h3 : b * 1 ≤ b * c := Nat.mul_le_mul_left b h1
      rw [Nat.add_mul, Nat.one_mul]
      have : j * b * c = j * (b * c) := Nat.mul_assoc ..
      omega
    rw [hu, hv] at k1
    have : g * u ≤ g * ((j + 1) * v) := by
      refine Nat.le_trans k1 ?_
      refine Nat.le_of_eq ?_
      ac_rfl
    exact Nat.le_of_mul_le_mul_left this hg
/-- The sum of the chances of some seatings. -/
def sumC (l : Int) (R : List (List Int)) : Nat × Nat := R.foldl (fun p M => addC p (prodS l M M.length)) (0, 1)
theorem sumC_snoc (l : Int) (R : List (List Int)) (M : List Int) : sumC l (R ++ [M]) = addC (sumC l R) (prodS l M M.length) := by
  unfold sumC; rw [List.foldl_append]; rfl
theorem foldl_ok (l : Int) (n : Nat) : ∀ (R : List (List Int)) (j : Nat) (p : Nat × Nat), (∀ M ∈ R, M.length = n ∧ n ≤ 12) → SumOk (fct n) j p → SumOk (fct n) (j + R.length) (R.foldl (fun p M => addC p (prodS l M M.length)) p)
  | [], j, p, _, h => h
  | M :: R, j, p, hR, h => by
    obtain ⟨h1, h2⟩ := hR M (List.mem_cons_self ..)
    have hd := prodS_fct l M
    rw [List.foldl_cons, List.length_cons, show j + (R.length + 1) = j + 1 + R.length by omega]
    have hpb := (prodS_bound l M (by omega) M.length (Nat.le_refl _)).1
    refine foldl_ok l n R (j + 1) _ (fun M hM => hR M (List.mem_cons_of_mem _ hM)) (addC_ok h ?_ hpb)
    rw [← h1]; exact hd
theorem sumC_ok (l : Int) (n : Nat) (hn : n ≤ 7) (R : List (List Int)) (hR : ∀ M ∈ R, M.length = n) (hl : R.length ≤ 5040) : (sumC l R).1 ≤ 1000000000 ∧ (sumC l R).2 ≤ 1000000000 ∧ 1 ≤ (sumC l R).2 := by
  obtain ⟨h1, h2, h3⟩ := foldl_ok l n R 0 (0, 1) (fun M hM => ⟨hR M hM, by omega⟩) ⟨Nat.le_refl _, Nat.one_dvd _, by simp⟩
  rw [Nat.zero_add] at h3
  have h4 := Nat.le_of_dvd (fct_pos n) h2
  have h5 := fct_le n (by omega)
  have h6 : (sumC l R).2 ≤ 5040 := Nat.le_trans h4 h5
  refine ⟨?_, by omega, h1⟩
  have h7 : R.length * (sumC l R).2 ≤ 5040 * 5040 := Nat.mul_le_mul hl h6
  have h8 : (sumC l R).1 ≤ R.length * (sumC l R).2 := h3
  omega
theorem prodS_small (l : Int) (M : List Int) (h : M.length ≤ 7) : 1 ≤ prodS l M M.length ∧ prodS l M M.length ≤ 5040 :=
  ⟨(prodS_bound l M (by omega) M.length (Nat.le_refl _)).1, Nat.le_trans (Nat.le_of_dvd (fct_pos _) (prodS_fct l M)) (fct_le _ (by omega))⟩
/-- All that are listed can come. -/
theorem come_snoc {l : Int} {M : List Int} {y : Nat} (h : comeK l M M.length) (hf : fitsN l M y = true) : comeK l (M ++ [(y : Int)]) (M ++ [(y : Int)]).length := by
  intro j hj
  rw [List.length_append] at hj
  simp only [List.length_cons, List.length_nil] at hj
  by_cases e : j < M.length
  · rcases h j e with h1 | h1
    · left; rw [List.take_append_of_le_length (by omega)]; exact h1
    · right
      rw [List.getD_eq_getElem?_getD, List.getElem?_append_left e, ← List.getD_eq_getElem?_getD]; exact h1
  · obtain rfl : j = M.length := by omega
    unfold fitsN fitsS at hf
    simp only [Bool.and_eq_true, Bool.or_eq_true, decide_eq_true_eq] at hf
    rcases hf.2 with h1 | h1
    · right
      rw [List.getD_eq_getElem?_getD, List.getElem?_append_right (Nat.le_refl _)]; simpa using h1
    · left
      rw [List.take_append_of_le_length (Nat.le_refl _), List.take_length]; exact h1
theorem goOn_come (l : Int) (n : Nat) : ∀ (k : Nat) (M : List Int), comeK l M M.length → ∀ x ∈ goOn (fitsN l) n k M, comeK l x x.length
  | 0, M, h, x, hx => by
    simp [goOn] at hx
    subst hx
    exact h
  | k + 1, M, h, x, hx => by
    simp only [goOn, List.mem_flatMap] at hx
    obtain ⟨y, hy, hx⟩ := hx
    exact goOn_come l n k _ (come_snoc h (List.mem_filter.1 hy).2) x hx
end Go.Am
