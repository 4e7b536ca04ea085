/- All seatings in order; sums of chances; the likeliest ones. No program. -/
import Derived.Test.YtefnllmplhefeaaMaLook
import Derived.Test.YtefnllmplhefeaaMaSe
namespace Go.Am
/-- May the guest behind those of a list get a seat? -/
def fitsN (l : Int) (M : List Int) (y : Nat) : Bool := fitsS l M (y : Int)
/-- The seats that are free. -/
def freeN (n : Nat) (M : List Int) : List Nat := (List.range n).filter fun (x : Nat) => !decide ((x : Int) ∈ M)
theorem range_one (n g : Nat) (h : g < n) (p : Nat → Bool) (hp : ∀ x, p x = decide (x = g)) : (List.range n).filter p = [g] := by
  induction n with
  | zero => omega
  | succ n ih =>
    rw [List.range_succ, List.filter_append]
    by_cases hg : g < n
    · rw [ih hg, List.filter_cons_of_neg (by rw [hp]; simp; omega)]; rfl
    · obtain rfl : g = n := by omega
      rw [List.filter_eq_nil_iff.2 fun x hx => by have := List.mem_range.1 hx; rw [hp]; simp; omega, List.filter_cons_of_pos (by rw [hp]; simp)]; rfl
theorem goOn_forced {l : Int} {n k : Nat} {M : List Int} (hM : M.length < n) (hc : chs l M = false) : goOn (fitsN l) n (k + 1) M = goOn (fitsN l) n k (M ++ [(M.length : Int)]) := by
  have hc2 := hc
  unfold chs at hc2
  simp only [Bool.or_eq_false_iff, decide_eq_false_iff_not] at hc2
  rw [goOn, range_one n M.length hM]
  · simp
  · intro x
    unfold fitsN fitsS
    rw [hc, Bool.or_false]
    by_cases hx : x = M.length
    · subst hx; simp [hc2.2]
    · have : ¬ (x : Int) = (M.length : Int) := by omega
      simp [this, hx]
theorem goOn_free {l : Int} {n k : Nat} {M : List Int} (hc : chs l M = true) : goOn (fitsN l) n (k + 1) M = (freeN n M).flatMap fun (x : Nat) => goOn (fitsN l) n k (M ++ [(x : Int)]) := by
  rw [goOn]
  congr 1
  unfold freeN
  refine List.filter_congr fun x _ => ?_
  unfold fitsN fitsS
  rw [hc, Bool.or_true, Bool.and_true]

/-- A beginning of a seating: all on other seats. -/
def IsBeg (n : Nat) (M : List Int) : Prop := M.Nodup ∧ ∀ x ∈ M, 0 ≤ x ∧ x < (n : Int)
theorem beg_nil (n : Nat) : IsBeg n [] := ⟨List.nodup_nil, fun x hx => by simp at hx⟩
theorem beg_snoc {n : Nat} {M : List Int} {x : Nat} (h : IsBeg n M) (hx : x < n) (hn : (x : Int) ∉ M) : IsBeg n (M ++ [(x : Int)]) := by
  refine ⟨?_, fun y hy => ?_⟩
  · rw [List.nodup_append]
    exact ⟨h.1, by simp, fun a ha b hb e => hn (by rw [List.mem_singleton] at hb; rw [← hb, ← e]; exact ha)⟩
  · rcases List.mem_append.1 hy with hy | hy
    · exact h.2 y hy
    · rw [List.mem_singleton] at hy; subst hy; omega
theorem cnt_ne (a : Nat) (p : Nat → Bool) (hp : p a = true) : ∀ R : List Nat, R.Nodup → a ∈ R → (R.filter fun x => p x && decide (x ≠ a)).length + 1 = (R.filter p).length
  | [], _, h => by simp at h
  | b :: R, hn, h => by
    rw [List.nodup_cons] at hn
    by_cases hb : b = a
    · subst hb
      have e : R.filter (fun x => p x && decide (x ≠ b)) = R.filter p := List.filter_congr fun x hx => by
        have : x ≠ b := fun e => hn.1 (e ▸ hx)
        simp [this]
      rw [List.filter_cons_of_neg (by simp), List.filter_cons_of_pos hp, e]; rfl
    · have hm : a ∈ R := by
        rcases List.mem_cons.1 h with h | h
        · exact absurd h.symm hb
        · exact h
      have ih := cnt_ne a p hp R hn.2 hm
      by_cases hq : p b = true
      · rw [List.filter_cons_of_pos (by simp [hq, hb]), List.filter_cons_of_pos hq]
        simp only [List.length_cons]; omega
      · rw [List.filter_cons_of_neg (by simp [hq]), List.filter_cons_of_neg hq]
        exact ih
theorem free_len (n : Nat) : ∀ M : List Int, IsBeg n M → (freeN n M).length + M.length = n
  | [], _ => by
    have : freeN n [] = List.range n := List.filter_eq_self.2 fun x _ => by simp
    rw [this]; simp
  | a :: M, h => by
    obtain ⟨h1, h2⟩ := h
    rw [List.nodup_cons] at h1
    have ih := free_len n M ⟨h1.2, fun x hx => h2 x (List.mem_cons_of_mem _ hx)⟩
    have ha := h2 a (List.mem_cons_self ..)
    obtain ⟨b, rfl⟩ := Int.eq_ofNat_of_zero_le ha.1
    have hb : b < n := by omega
    have hc := cnt_ne b (fun x : Nat => !decide ((x : Int) ∈ M)) (by simp [h1.1]) (List.range n) List.nodup_range (List.mem_range.2 hb)
    have e : freeN n ((b : Int) :: M) = (List.range n).filter fun (x : Nat) => (!decide ((x : Int) ∈ M)) && decide (x ≠ b) := by
      unfold freeN
      refine List.filter_congr fun x _ => ?_
      by_cases hx : x = b
      · subst hx; simp
      · have : ¬ (x : Int) = (b : Int) := by omega
        simp [this, hx]
    have e2 : freeN n M = (List.range n).filter fun (x : Nat) => !decide ((x : Int) ∈ M) := rfl
    rw [e2] at ih
    rw [e, List.length_cons]
    omega
def fct : Nat → Nat
  | 0 => 1
  | k + 1 => (k + 1) * fct k
theorem fct_pos : ∀ k, 1 ≤ fct k
  | 0 => Nat.le_refl _
  | k + 1 => Nat.mul_le_mul (show 1 ≤ k + 1 by omega) (fct_pos k)
theorem flatMap_le {α : Type} (f : α → List (List Int)) (m : Nat) : ∀ l : List α, (∀ x ∈ l, (f x).length ≤ m) → (l.flatMap f).length ≤ l.length * m
  | [], _ => by simp
  | a :: l, h => by
    have h1 := h a (List.mem_cons_self ..)
    have h2 := flatMap_le f m l fun x hx => h x (List.mem_cons_of_mem _ hx)
    rw [List.flatMap_cons, List.length_append, List.length_cons, Nat.add_mul, Nat.one_mul]
    omega
theorem goOn_count (l : Int) (n : Nat) : ∀ (k : Nat) (M : List Int), IsBeg n M → M.length + k = n → (goOn (fitsN l) n k M).length ≤ fct k
  | 0, M, _, _ => by simp [goOn, fct]
  | k + 1, M, h, hl => by
    by_cases hc : chs l M = true
    · rw [goOn_free hc]
      have hf := free_len n M h
      have h1 := flatMap_le (fun (x : Nat) => goOn (fitsN l) n k (M ++ [(x : Int)])) (fct k) (freeN n M) fun x hx => by
        unfold freeN at hx
        obtain ⟨hx1, hx2⟩ := List.mem_filter.1 hx
        refine goOn_count l n k _ (beg_snoc h (List.mem_range.1 hx1) (by simpa using hx2)) (by simp; omega)
      have e : (freeN n M).length = k + 1 := by omega
      rw [e] at h1
      exact h1
    · have hc' : chs l M = false := by simpa using hc
      have hnm : (M.length : Int) ∉ M := by
        unfold chs at hc'
        simp only [Bool.or_eq_false_iff, decide_eq_false_iff_not] at hc'
        exact hc'.2
      rw [goOn_forced (by omega) hc']
      have h1 := goOn_count l n k _ (beg_snoc h (by omega) hnm) (by simp; omega)
      refine Nat.le_trans h1 ?_
      show fct k ≤ (k + 1) * fct k
      exact Nat.le_mul_of_pos_left _ (by omega)
theorem fct_le : ∀ k < 8, fct k ≤ 5040 := by decide +kernel
/-- All that are listed are beginnings, of full length. -/
theorem goOn_beg (l : Int) (n : Nat) : ∀ (k : Nat) (M : List Int), IsBeg n M → ∀ x ∈ goOn (fitsN l) n k M, IsBeg n x ∧ x.length = M.length + k
  | 0, M, h, x, hx => by
    simp [goOn] at hx
    subst hx
    exact ⟨h, by simp⟩
  | k + 1, M, h, x, hx => by
    simp only [goOn, List.mem_flatMap] at hx
    obtain ⟨y, hy, hx⟩ := hx
    obtain ⟨hy1, hy2⟩ := List.mem_filter.1 hy
    have hnm : (y : Int) ∉ M := by
      unfold fitsN fitsS at hy2
      simp only [Bool.and_eq_true, Bool.not_eq_true', decide_eq_false_iff_not] at hy2
      exact hy2.1
    obtain ⟨h1, h2⟩ := goOn_beg l n k _ (beg_snoc h (List.mem_range.1 hy1) hnm) x hx
    exact ⟨h1, by rw [h2]; simp; omega⟩

theorem comesB_asymm : ∀ a b : List Int, comesB a b = true → comesB b a = false
  | [], _, h => by simp [comesB] at h
  | _ :: _, [], h => by simp [comesB] at h
  | a :: l, b :: m, h => by
    simp only [comesB] at h ⊢
    by_cases e : a = b
    · subst e
      simp only [if_true] at h ⊢
      exact comesB_asymm l m h
    · rw [if_neg e] at h
      rw [if_neg fun hh => e hh.symm]
      have := of_decide_eq_true h
      exact decide_eq_false (by omega)
theorem goOn_sorted (fits : List Int → Nat → Bool) (n : Nat) : ∀ (k : Nat) (l : List Int), (goOn fits n k l).Pairwise fun a b => comesB a b = true
  | 0, l => by simp [goOn]
  | k + 1, l => by
    rw [goOn, List.pairwise_flatMap]
    refine ⟨fun x _ => goOn_sorted fits n k _, ?_⟩
    refine List.Pairwise.filter _ (List.Pairwise.imp ?_ List.pairwise_lt_range)
    intro a b hab x hx y hy
    obtain ⟨r, rfl, _⟩ := goOn_shape fits n _ _ _ hx
    obtain ⟨t, rfl, _⟩ := goOn_shape fits n _ _ _ hy
    rw [List.append_assoc, List.append_assoc, comesB_append]
    have h1 : ¬ (a : Int) = (b : Int) := by omega
    simp only [List.singleton_append, comesB, if_neg h1]
    exact decide_eq_true (by omega)
/-- In a sorted list the first behind the one at j is the next one. -/
theorem find_sorted {A : List (List Int)} (h : A.Pairwise fun a b => comesB a b = true) {j : Nat} (hj : j < A.length) : A.find? (fun m => comesB (A.getD j []) m) = A[j + 1]? := by
  have hs : A = A.take (j + 1) ++ A.drop (j + 1) := (List.take_append_drop _ _).symm
  have hg : A.getD j [] = A[j] := by simp [hj]
  have hpw := List.pairwise_iff_getElem.1 h
  have h1 : (A.take (j + 1)).find? (fun m => comesB (A.getD j []) m) = none := by
    rw [List.find?_eq_none]
    intro m hm
    obtain ⟨i, hi, rfl⟩ := List.mem_iff_getElem.1 hm
    rw [List.length_take] at hi
    rw [List.getElem_take, hg]
    by_cases e : i = j
    · subst e; rw [comesB_self]; simp
    · rw [comesB_asymm _ _ (hpw i j (by omega) hj (by omega))]; simp
  have h2 : (A.drop (j + 1)).find? (fun m => comesB (A.getD j []) m) = A[j + 1]? := by
    by_cases e : j + 1 < A.length
    · rw [List.drop_eq_getElem_cons e, List.find?_cons_of_pos (by rw [hg]; exact hpw j (j + 1) hj e (by omega))]
      simp [e]
    · rw [List.drop_eq_nil_of_le (by omega), List.getElem?_eq_none (by omega)]; rfl
  generalize A.getD j [] = B at h1 h2 ⊢
  have h3 : (A.take (j + 1) ++ A.drop (j + 1)).find? (fun m => comesB B m) = A[j + 1]? := by rw [List.find?_append, h1, Option.none_or, h2]
  rw [← hs] at h3
  exact h3
end Go.Am
namespace Go.Am
def lowN (a b : Nat) : Nat × Nat := (a / Nat.gcd a b, b / Nat.gcd a b)
/-- The product of the numbers of all seats that were free for the first k. -/
def downTo (n : Nat) : Nat → Nat
  | 0 => 1
  | k + 1 => downTo n k * (n - k)
theorem downTo_fct (n : Nat) : ∀ k, k ≤ n → downTo n k * fct (n - k) = fct n
  | 0, _ => by simp [downTo]
  | k + 1, h => by
    have ih := downTo_fct n k (by omega)
    obtain ⟨m, hm⟩ : ∃ m, n - k = m + 1 := ⟨n - k - 1, by omega⟩
    have e : n - (k + 1) = m := by omega
    rw [← ih, downTo, e, hm]
    show downTo n k * (m + 1) * fct m = downTo n k * ((m + 1) * fct m)
    rw [Nat.mul_assoc]
theorem prodS_dvd (l : Int) (L : List Int) : ∀ k, prodS l L k ∣ downTo L.length k
  | 0 => Nat.dvd_refl _
  | k + 1 => by
    have ih := prodS_dvd l L k
    simp only [prodS, downTo]
    split
    · exact Nat.mul_dvd_mul_right ih _
    · exact Nat.dvd_trans ih (Nat.dvd_mul_right _ _)
theorem prodS_fct (l : Int) (L : List Int) : prodS l L L.length ∣ fct L.length := by
  have h := downTo_fct L.length L.length (Nat.le_refl _)
  rw [Nat.sub_self] at h
  have := prodS_dvd l L L.length
  rw [← h]
  exact Nat.dvd_trans this (Nat.dvd_mul_right _ _)

/-- The sum with one more chance. -/
def addC (p : Nat × Nat) (c : Nat) : Nat × Nat := lowN (p.1 * c + 1 * p.2) (p.2 * c)
/-- What is kept of a sum of j chances whose denominators divide D. -/
def SumOk (D j : Nat) (p : Nat × Nat) : Prop := 1 ≤ p.2 ∧ p.2 ∣ D ∧ p.1 ≤ j * p.2
theorem addC_ok {D j : Nat} {p : Nat × Nat} {c : Nat} (hp : SumOk D j p) (hc : c ∣ D) (h1 : 1 ≤ c) : SumOk D (j + 1) (addC p c) := by
  obtain ⟨a, b⟩ := p
  obtain ⟨hb, hbD, ha⟩ := hp
  simp only at hb hbD ha
  unfold addC lowN SumOk
  simp only [Nat.one_mul]
  have hbc : 0 < b * c := Nat.mul_pos hb h1
  have hg : 0 < Nat.gcd (a * c + b) (b * c) := Nat.gcd_pos_of_pos_right _ hbc
  obtain ⟨u, hu⟩ := Nat.gcd_dvd_left (a * c + b) (b * c)
  obtain ⟨v, hv⟩ := Nat.gcd_dvd_right (a * c + b) (b * c)
  have hcop : Nat.gcd ((a * c + b) / Nat.gcd (a * c + b) (b * c)) ((b * c) / Nat.gcd (a * c + b) (b * c)) = 1 := Nat.gcd_div_gcd_div_gcd_of_pos_right hbc
  generalize hG : Nat.gcd (a * c + b) (b * c) = g at *
  have e1 : (a * c + b) / g = u := by rw [hu]; exact Nat.mul_div_cancel_left _ hg
  have e2 : (b * c) / g = v := by rw [hv]; exact Nat.mul_div_cancel_left _ hg
  rw [e1, e2] at hcop ⊢
  obtain ⟨x, hx⟩ := hbD
  obtain ⟨y, hy⟩ := hc
  refine ⟨?_, ?_, ?_⟩
  · rcases Nat.eq_zero_or_pos v with h | h
    · rw [h] at hv; omega
    · exact h
  · have k1 : (a * c + b) * D = (a * x + y) * (b * c) := by
      have h1 : a * c * D = a * x * (b * c) := by
        rw [hx]; ac_rfl
      have h2 : b * D = y * (b * c) := by
        rw [hy]; ac_rfl
      rw [Nat.add_mul, Nat.add_mul, h1, h2]
    rw [hu, hv] at k1
    have k2 : u * D = (a * x + y) * v := by
      have : g * (u * D) = g * ((a * x + y) * v) := by
        rw [← Nat.mul_assoc, k1]; ac_rfl
      exact Nat.eq_of_mul_eq_mul_left hg this
    have k3 : v ∣ u * D := by rw [k2]; exact Nat.dvd_mul_left _ _
    exact (Nat.Coprime.symm hcop).dvd_of_dvd_mul_left k3
  · have k1 : a * c + b ≤ (j + 1) * (b * c) := by
      have h2 : a * c ≤ j * b * c := Nat.mul_le_mul_right c ha
      have h3 : b * 1 ≤ b * c := Nat.mul_le_mul_left b h1
      rw [Nat.add_mul, Nat.one_mul]
      have : j * b * c = j * (b * c) := Nat.mul_assoc ..
      omega
    rw [hu, hv] at k1
    have : g * u ≤ g * ((j + 1) * v) := by
      refine Nat.le_trans k1 ?_
      refine Nat.le_of_eq ?_
      ac_rfl
    exact Nat.le_of_mul_le_mul_left this hg
/-- The sum of the chances of some seatings. -/
def sumC (l : Int) (R : List (List Int)) : Nat × Nat := R.foldl (fun p M => addC p (prodS l M M.length)) (0, 1)
theorem sumC_snoc (l : Int) (R : List (List Int)) (M : List Int) : sumC l (R ++ [M]) = addC (sumC l R) (prodS l M M.length) := by
  unfold sumC; rw [List.foldl_append]; rfl
theorem foldl_ok (l : Int) (n : Nat) : ∀ (R : List (List Int)) (j : Nat) (p : Nat × Nat), (∀ M ∈ R, M.length = n ∧ n ≤ 12) → SumOk (fct n) j p → SumOk (fct n) (j + R.length) (R.foldl (fun p M => addC p (prodS l M M.length)) p)
  | [], j, p, _, h => h
  | M :: R, j, p, hR, h => by
    obtain ⟨h1, h2⟩ := hR M (List.mem_cons_self ..)
    have hd := prodS_fct l M
    rw [List.foldl_cons, List.length_cons, show j + (R.length + 1) = j + 1 + R.length by omega]
    have hpb := (prodS_bound l M (by omega) M.length (Nat.le_refl _)).1
    refine foldl_ok l n R (j + 1) _ (fun M hM => hR M (List.mem_cons_of_mem _ hM)) (addC_ok h ?_ hpb)
    rw [← h1]; exact hd
theorem sumC_ok (l : Int) (n : Nat) (hn : n ≤ 7) (R : List (List Int)) (hR : ∀ M ∈ R, M.length = n) (hl : R.length ≤ 5040) : (sumC l R).1 ≤ 1000000000 ∧ (sumC l R).2 ≤ 1000000000 ∧ 1 ≤ (sumC l R).2 := by
  obtain ⟨h1, h2, h3⟩ := foldl_ok l n R 0 (0, 1) (fun M hM => ⟨hR M hM, by omega⟩) ⟨Nat.le_refl _, Nat.one_dvd _, by simp⟩
  rw [Nat.zero_add] at h3
  have h4 := Nat.le_of_dvd (fct_pos n) h2
  have h5 := fct_le n (by omega)
  have h6 : (sumC l R).2 ≤ 5040 := Nat.le_trans h4 h5
  refine ⟨?_, by omega, h1⟩
  have h7 : R.length * (sumC l R).2 ≤ 5040 * 5040 := Nat.mul_le_mul hl h6
  have h8 : (sumC l R).1 ≤ R.length * (sumC l R).2 := h3
  omega
theorem prodS_small (l : Int) (M : List Int) (h : M.length ≤ 7) : 1 ≤ prodS l M M.length ∧ prodS l M M.length ≤ 5040 :=
  ⟨(prodS_bound l M (by omega) M.length (Nat.le_refl _)).1, Nat.le_trans (Nat.le_of_dvd (fct_pos _) (prodS_fct l M)) (fct_le _ (by omega))⟩
/-- All that are listed can come. -/
theorem come_snoc {l : Int} {M : List Int} {y : Nat} (h : comeK l M M.length) (hf : fitsN l M y = true) : comeK l (M ++ [(y : Int)]) (M ++ [(y : Int)]).length := by
  intro j hj
  rw [List.length_append] at hj
  simp only [List.length_cons, List.length_nil] at hj
  by_cases e : j < M.length
  · rcases h j e with h1 | h1
    · left; rw [List.take_append_of_le_length (by omega)]; exact h1
    · right
      rw [List.getD_eq_getElem?_getD, List.getElem?_append_left e, ← List.getD_eq_getElem?_getD]; exact h1
  · obtain rfl : j = M.length := by omega
    unfold fitsN fitsS at hf
    simp only [Bool.and_eq_true, Bool.or_eq_true, decide_eq_true_eq] at hf
    rcases hf.2 with h1 | h1
    · right
      rw [List.getD_eq_getElem?_getD, List.getElem?_append_right (Nat.le_refl _)]; simpa using h1
    · left
      rw [List.take_append_of_le_length (Nat.le_refl _), List.take_length]; exact h1
theorem goOn_come (l : Int) (n : Nat) : ∀ (k : Nat) (M : List Int), comeK l M M.length → ∀ x ∈ goOn (fitsN l) n k M, comeK l x x.length
  | 0, M, h, x, hx => by
    simp [goOn] at hx
    subst hx
    exact h
  | k + 1, M, h, x, hx => by
    simp only [goOn, List.mem_flatMap] at hx
    obtain ⟨y, hy, hx⟩ := hx
    exact goOn_come l n k _ (come_snoc h (List.mem_filter.1 hy).2) x hx
end Go.Am
namespace Go.Am
theorem chs_lost {l : Int} {L : List Int} {k : Nat} (h : (k : Int) < l) (hk : k ≤ L.length) : chs l (L.take k) = true := by
  unfold chs
  rw [List.length_take_of_le hk]
  simp [h]
theorem prodS_lost (l : Nat) (L : List Int) : ∀ k, k ≤ l → k ≤ L.length → prodS (l : Int) L k = downTo L.length k
  | 0, _, _ => rfl
  | k + 1, h, hk => by
    simp only [prodS, downTo]
    rw [chs_lost (by omega) (by omega), if_pos rfl, prodS_lost l L k (by omega) (by omega)]
theorem prodS_mono (l : Int) (L : List Int) (k : Nat) : ∀ j, k + j ≤ L.length → prodS l L k ≤ prodS l L (k + j)
  | 0, _ => Nat.le_refl _
  | j + 1, h => by
    have ih := prodS_mono l L k j (by omega)
    show _ ≤ prodS l L (k + j + 1)
    simp only [prodS]
    split
    · have : prodS l L (k + j) * 1 ≤ prodS l L (k + j) * (L.length - (k + j)) := Nat.mul_le_mul_left _ (by omega)
      omega
    · exact ih
/-- No seating is likelier. -/
theorem prodS_least (l : Nat) (L : List Int) (h : l ≤ L.length) : downTo L.length l ≤ prodS (l : Int) L L.length := by
  rw [← prodS_lost l L l (Nat.le_refl _) h]
  have := prodS_mono (l : Int) L l (L.length - l) (by omega)
  rwa [show l + (L.length - l) = L.length by omega] at this
/-- The first one is that in which all sit on their own seats; it is likeliest. -/
def iotaI (n : Nat) : List Int := (List.range n).map fun (x : Nat) => (x : Int)
theorem first_iota : ∀ n < 8, ∀ (l : Nat), l < n + 1 → (goOn (fitsN (l : Int)) n n []).head? = some (iotaI n) := by decide +kernel
theorem prod_iota : ∀ n < 8, ∀ (l : Nat), l < n + 1 → prodS (l : Int) (iotaI n) n = downTo n l := by decide +kernel
def likeB (l : Int) (c : Nat) (M : List Int) : Bool := decide (prodS l M M.length = c)
theorem outs_slro {s : AS} {r n : Nat} {rows : List (List Int)} (hr : s.hp r = some (true, rows.map newInts)) (hl : n = rows.length) :
    Outs s (.sl r 1 0 n) (.ro true 1 (rows.map newInts) n) := by
  subst hl
  intro w0 N tm w phi ro y hS hy
  simp only [SimV] at hy ⊢
  rcases hy.2.2 with ⟨h1, _, h3, rfl⟩ | ⟨b, o, cap, cur, e, h1, rfl, h3, h4, h5, h6, h7⟩
  · left
    have : rows = [] := List.eq_nil_of_length_eq_zero h3
    subst this
    exact ⟨rfl, rfl, none, 0, rfl, fun _ => ⟨rfl, rfl⟩⟩
  · right
    have ho : o = 0 := by
      rcases h4 with h4 | h4
      · exact h4
      · exact absurd h4.2 (Nat.lt_irrefl _)
    subst ho
    rcases hS.liv r _ hr with ⟨h8, _⟩ | ⟨b', cur', e', h8, h9, h10, h11, h12⟩ | ⟨b', o', _, h8, h9, h10, _⟩
    · have : phi r = some b := h1
      rw [h8] at this; cases this
    case inr.inr => exact ob_not_cells h8 h9 h10 h1 h3
    · have h1' : phi r = some b := h1
      rw [h8] at h1'
      cases h1'
      have h3' : w.heap[b]? = some (.cells cur e (0, 0)) := h3
      rw [h9] at h3'
      cases h3'
      have hb : w0.heap.size ≤ b := (h11.resolve_right fun h => by cases h.2).2
      refine ⟨b, 0, cap, cur, e, (0, 0), rfl, h9, ⟨hb, lt_of_get h9⟩, by simp, h5, fun _ => ⟨hb, rfl, rfl, h6, by omega⟩, ?_⟩
      simp only [SimR, if_true] at h12
      rw [List.drop_zero]
      refine SimL.of_get fun i a hi => ?_
      obtain ⟨y, hy1, hy2⟩ := h12.get hi
      refine ⟨y, hy1, ?_⟩
      rw [List.getElem?_map, Option.map_eq_some_iff] at hi
      obtain ⟨L, _, rfl⟩ := hi
      simp only [SimV] at hy2 ⊢
      rcases hy2 with hy2 | ⟨b, o, cap, cur, e, fz, g1, g2, g3, g4, g5, g6, g7⟩
      · exact .inl hy2
      · obtain ⟨k1, k2⟩ := g6 trivial
        exact .inr ⟨b, o, cap, cur, e, fz, g1, g2, ⟨k1, lt_of_get g2⟩, g4, g5, fun _ => ⟨k1, k2⟩, simL_allv (allv_ints L) g7⟩
def CutQ0 (R : AS) (Q : Exit → AS → Prop) : Exit → AS → Prop
  | .normal, s => Weak s R
  | e, s => Q e s
theorem AW_cutseq0 {P : Program} {N : Nat} {s : AS} {x y : ACode} {Q : Exit → AS → Prop} (R : AS) (k : AW P N y R Q) (h : AW P N x s (CutQ0 R Q)) : AW P N (.seq x y) s Q := by
  refine AW_seq (AW_mono h fun e s' he => ?_)
  cases e <;> first | exact AW_weak he k | exact he
end Go.Am
