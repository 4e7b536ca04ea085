/- All seatings in order. No program. -/
import Derived.Test.YtpefdmmnimmpiaaMaLook
import Derived.Test.YtpefdmmnimmpiaaMaSe
namespace Go.Am
/-- May the guest behind those of a list get a seat? -/
def fitsN (l : Int) (M : List Int) (y : Nat) : Bool := fitsS l M (y : Int)
/-- The seats that are free. -/
def freeN (n : Nat) (M : List Int) : List Nat := (List.range n).filter fun (x : Nat) => !decide ((x : Int) ∈ M)
theorem range_one (n g : Nat) (h : g < n) (p : Nat → Bool) (hp : ∀ x, p x = decide (x = g)) : (List.range n).filter p = [g] := by
  induction n with
  | zero => omega
  | succ n ih =>
    rw [List.range_succ, List.filter_append]
    by_cases hg : g < n
    · rw [ih hg, List.filter_cons_of_neg (by rw [hp]; simp; omega)]; rfl
    · obtain rfl : g = n := by omega
      rw [List.filter_eq_nil_iff.2 fun x hx => by have := List.mem_range.1 hx; rw [hp]; simp; omega, List.filter_cons_of_pos (by rw [hp]; simp)]; rfl
theorem goOn_forced {l : Int} {n k : Nat} {M : List Int} (hM : M.length < n) (hc : chs l M = false) : goOn (fitsN l) n (k + 1) M = goOn (fitsN l) n k (M ++ [(M.length : Int)]) := by
  have hc2 := hc
  unfold chs at hc2
  simp only [Bool.or_eq_false_iff, decide_eq_false_iff_not] at hc2
  rw [goOn, range_one n M.length hM]
  · simp
  · intro x
    unfold fitsN fitsS
    rw [hc, Bool.or_false]
    by_cases hx : x = M.length
    · subst hx; simp [hc2.2]
    · have : ¬ (x : Int) = (M.length : Int) := by omega
      simp [this, hx]
theorem goOn_free {l : Int} {n k : Nat} {M : List Int} (hc : chs l M = true) : goOn (fitsN l) n (k + 1) M = (freeN n M).flatMap fun (x : Nat) => goOn (fitsN l) n k (M ++ [(x : Int)]) := by
  rw [goOn]
  congr 1
  unfold freeN
  refine List.filter_congr fun x _ => ?_
  unfold fitsN fitsS
  rw [hc, Bool.or_true, Bool.and_true]

/-- A beginning of a seating: all on other seats. -/
def IsBeg (n : Nat) (M : List Int) : Prop := M.Nodup ∧ ∀ x ∈ M, 0 ≤ x ∧ x < (n : Int)
theorem beg_nil (n : Nat) : IsBeg n [] := ⟨List.nodup_nil, fun x hx => by simp at hx⟩
theorem beg_snoc {n : Nat} {M : List Int} {x : Nat} (h : IsBeg n M) (hx : x < n) (hn : (x : Int) ∉ M) : IsBeg n (M ++ [(x : Int)]) := by
  refine ⟨?_, fun y hy => ?_⟩
  · rw [List.nodup_append]
    exact ⟨h.1, by simp, fun a ha b hb e => hn (by rw [List.mem_singleton] at hb; rw [← hb, ← e]; exact ha)⟩
  · rcases List.mem_append.1 hy with hy | hy
    · exact h.2 y hy
    · rw [List.mem_singleton] at hy; subst hy; omega
theorem cnt_ne (a : Nat) (p : Nat → Bool) (hp : p a = true) : ∀ R : List Nat, R.Nodup → a ∈ R → (R.filter fun x => p x && decide (x ≠ a)).length + 1 = (R.filter p).length
  | [], _, h => by simp at h
  | b :: R, hn, h => by
    rw [List.nodup_cons] at hn
    by_cases hb : b = a
    · subst hb
      have e : R.filter (fun x => p x && decide (x ≠ b)) = R.filter p := List.filter_congr fun x hx => by
        have : x ≠ b := fun e => hn.1 (e ▸ hx)
        simp [this]
      rw [List.filter_cons_of_neg (by simp), List.filter_cons_of_pos hp, e]; rfl
    · have hm : a ∈ R := by
        rcases List.mem_cons.1 h with h | h
        · exact absurd h.symm hb
        · exact h
      have ih := cnt_ne a p hp R hn.2 hm
      by_cases hq : p b = true
      · rw [List.filter_cons_of_pos (by simp [hq, hb]), List.filter_cons_of_pos hq]
        simp only [List.length_cons]; omega
      · rw [List.filter_cons_of_neg (by simp [hq]), List.filter_cons_of_neg hq]
        exact ih
theorem free_len (n : Nat) : ∀ M : List Int, IsBeg n M → (freeN n M).length + M.length = n
  | [], _ => by
    have : freeN n [] = List.range n := List.filter_eq_self.2 fun x _ => by simp
    rw [this]; simp
  | a :: M, h => by
    obtain ⟨h1, h2⟩ := h
    rw [List.nodup_cons] at h1
    have ih := free_len n M ⟨h1.2, fun x hx => h2 x (List.mem_cons_of_mem _ hx)⟩
    have ha := h2 a (List.mem_cons_self ..)
    obtain ⟨b, rfl⟩ := Int.eq_ofNat_of_zero_le ha.1
    have hb : b < n := by omega
    have hc := cnt_ne b (fun x : Nat => !decide ((x : Int) ∈ M)) (by simp [h1.1]) (List.range n) List.nodup_range (List.mem_range.2 hb)
    have e : freeN n ((b : Int) :: M) = (List.range n).filter fun (x : Nat) => (!decide ((x : Int) ∈ M)) && decide (x ≠ b) := by
      unfold freeN
      refine List.filter_congr fun x _ => ?_
      by_cases hx : x = b
      · subst hx; simp
      · have : ¬ (x : Int) = (b : Int) := by omega
        simp [this, hx]
    have e2 : freeN n M = (List.range n).filter fun (x : Nat) => !decide ((x : Int) ∈ M) := rfl
    rw [e2] at ih
    rw [e, List.length_cons]
    omega
def fct : Nat → Nat
  | 0 => 1
  | k + 1 => (k + 1) * fct k
theorem fct_pos : ∀ k, 1 ≤ fct k
  | 0 => Nat.le_refl _
  | k + 1 => Nat.mul_le_mul (show 1 ≤ k + 1 by omega) (fct_pos k)
theorem flatMap_le {α : Type} (f : α → List (List Int)) (m : Nat) : ∀ l : List α, (∀ x ∈ l, (f x).length ≤ m) → (l.flatMap f).length ≤ l.length * m
  | [], _ => by simp
  | a :: l, h => by
    have h1 := h a (List.mem_cons_self ..)
    have h2 := flatMap_le f m l fun x hx => h x (List.mem_cons_of_mem _ hx)
    rw [List.flatMap_cons, List.length_append, List.length_cons, Nat.add_mul, Nat.one_mul]
    omega
theorem goOn_count (l : Int) (n : Nat) : ∀ (k : Nat) (M : List Int), IsBeg n M → M.length + k = n → (goOn (fitsN l) n k M).length ≤ fct k
  | 0, M, _, _ => by simp [goOn, fct]
  | k + 1, M, h, hl => by
    by_cases hc : chs l M = true
    · rw [goOn_free hc]
      have hf := free_len n M h
      have h1 := flatMap_le (fun (x : Nat) => goOn (fitsN l) n k (M ++ [(x : Int)])) (fct k) (freeN n M) fun x hx => by
        unfold freeN at hx
        obtain ⟨hx1, hx2⟩ := List.mem_filter.1 hx
        refine goOn_count l n k _ (beg_snoc h (List.mem_range.1 hx1) (by simpa using hx2)) (by simp; omega)
      have e : (freeN n M).length = k + 1 := by omega
      rw [e] at h1
      exact h1
    · have hc' : chs l M = false := by simpa using hc
      have hnm : (M.length : Int) ∉ M := by
        unfold chs at hc'
        simp only [Bool.or_eq_false_iff, decide_eq_false_iff_not] at hc'
        exact hc'.2
      rw [goOn_forced (by omega) hc']
      have h1 := goOn_count l n k _ (beg_snoc h (by omega) hnm) (by simp; omega)
      refine Nat.le_trans h1 ?_
      show fct k ≤ (k + 1) * fct k
      exact Nat.le_mul_of_pos_left _ (by omega)
theorem fct_le : ∀ k < 8, fct k ≤ 5040 := by decide +kernel
/-- All that are listed are beginnings, of full length. -/
theorem goOn_beg (l : Int) (n : Nat) : ∀ (k : Nat) (M : List Int), IsBeg n M → ∀ x ∈ goOn (fitsN l) n k M, IsBeg n x ∧ x.length = M.length + k
  | 0, M, h, x, hx => by
    simp [goOn] at hx
    subst hx
    exact ⟨h, by simp⟩
  | k + 1, M, h, x, hx => by
    simp only [goOn, List.mem_flatMap] at hx
    obtain ⟨y, hy, hx⟩ := hx
    obtain ⟨hy1, hy2⟩ := List.mem_filter.1 hy
    have hnm : (y : Int) ∉ M := by
      unfold fitsN fitsS at hy2
      simp only [Bool.and_eq_true, Bool.not_eq_true', decide_eq_false_iff_not] at hy2
      exact hy2.1
    obtain ⟨h1, h2⟩ := goOn_beg l n k _ (beg_snoc h (List.mem_range.1 hy1) hnm) x hx
    exact ⟨h1, by rw [h2]; simp; omega⟩

theorem comesB_asymm : ∀ a b : List Int, comesB a b = true → comesB b a = false
  | [], _, h => by simp [comesB] at h
  | _ :: _, [], h => by simp [comesB] at h
  | a :: l, b :: m, h => by
    simp only [comesB] at h ⊢
    by_cases e : a = b
    · subst e
      simp only [if_true] at h ⊢
      exact comesB_asymm l m h
    · rw [if_neg e] at h
      rw [if_neg fun hh => e hh.symm]
      have := of_decide_eq_true h
      exact decide_eq_false (by omega)
theorem goOn_sorted (fits : List Int → Nat → Bool) (n : Nat) : ∀ (k : Nat) (l : List Int), (goOn fits n k l).Pairwise fun a b => comesB a b = true
  | 0, l => by simp [goOn]
  | k + 1, l => by
    rw [goOn, List.pairwise_flatMap]
    refine ⟨fun x _ => goOn_sorted fits n k _, ?_⟩
    refine List.Pairwise.filter _ (List.Pairwise.imp ?_ List.pairwise_lt_range)
    intro a b hab x hx y hy
    obtain ⟨r, rfl, _⟩ := goOn_shape fits n _ _ _ hx
    obtain ⟨t, rfl, _⟩ := goOn_shape fits n _ _ _ hy
    rw [List.append_assoc, List.append_assoc, comesB_append]
    have h1 : ¬ (a : Int) = (b : Int) := by omega
    simp only [List.singleton_append, comesB, if_neg h1]
    exact decide_eq_true (by omega)
/-- In a sorted list the first behind the one at j is the next one. -/
theorem find_sorted {A : List (List Int)} (h : A.Pairwise fun a b => comesB a b = true) {j : Nat} (hj : j < A.length) : A.find? (fun m => comesB (A.getD j []) m) = A[j + 1]? := by
  have hs : A = A.take (j + 1) ++ A.drop (j + 1) := (List.take_append_drop _ _).symm
  have hg : A.getD j [] = A[j] := by simp [hj]
  have hpw := List.pairwise_iff_getElem.1 h
  have h1 : (A.take (j + 1)).find? (fun m => comesB (A.getD j []) m) = none := by
    rw [List.find?_eq_none]
    intro m hm
    obtain ⟨i, hi, rfl⟩ := List.mem_iff_getElem.1 hm
    rw [List.length_take] at hi
    rw [List.getElem_take, hg]
    by_cases e : i = j
    · subst e; rw [comesB_self]; simp
    · rw [comesB_asymm _ _ (hpw i j (by omega) hj (by omega))]; simp
  have h2 : (A.drop (j + 1)).find? (fun m => comesB (A.getD j []) m) = A[j + 1]? := by
    by_cases e : j + 1 < A.length
    · rw [List.drop_eq_getElem_cons e, List.find?_cons_of_pos (by rw [hg]; exact hpw j (j + 1) hj e (by omega))]
      simp [e]
    · rw [List.drop_eq_nil_of_le (by omega), List.getElem?_eq_none (by omega)]; rfl
  generalize A.getD j [] = B at h1 h2 ⊢
  have h3 : (A.take (j + 1) ++ A.drop (j + 1)).find? (fun m => comesB B m) = A[j + 1]? := by rw [List.find?_append, h1, Option.none_or, h2]
  rw [← hs] at h3
  exact h3
end Go.Am
