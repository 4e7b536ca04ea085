/- Types of exchanges: all of a sum, in order, and how many exchanges have one. No program. -/
import Derived.Test.YtnfaljjlpphgiaaMaI
namespace Go.Am
/-- All types of a sum s with no number greater than m (u: at least the sum). -/
def tyU : Nat → Nat → Nat → List (List Int)
  | 0, _, _ => [[]]
  | u + 1, s, m => if s = 0 then [[]] else (List.range (min s m)).flatMap fun c => (tyU u (s - (min s m - c)) (min s m - c)).map fun r => ((min s m - c : Nat) : Int) :: r
def tyAll (s m : Nat) : List (List Int) := tyU s s m
theorem flatMap_congrM {α β : Type} {f g : α → List β} : ∀ {l : List α}, (∀ x ∈ l, f x = g x) → l.flatMap f = l.flatMap g
  | [], _ => rfl
  | a :: l, h => by
    rw [List.flatMap_cons, List.flatMap_cons, h a (List.mem_cons_self ..), flatMap_congrM fun x hx => h x (List.mem_cons_of_mem _ hx)]
theorem tyU_eq : ∀ u v s m, s ≤ u → s ≤ v → tyU u s m = tyU v s m
  | 0, 0, _, _, _, _ => rfl
  | 0, v + 1, s, m, h, _ => by
    obtain rfl : s = 0 := by omega
    simp [tyU]
  | u + 1, 0, s, m, _, h => by
    obtain rfl : s = 0 := by omega
    simp [tyU]
  | u + 1, v + 1, s, m, h1, h2 => by
    rw [tyU, tyU]
    by_cases hs : s = 0
    · rw [if_pos hs, if_pos hs]
    · rw [if_neg hs, if_neg hs]
      refine flatMap_congrM fun c hc => ?_
      have := List.mem_range.1 hc
      rw [tyU_eq u v _ _ (by omega) (by omega)]
/-- The types whose greatest number is t or one of the first c below. -/
def tyPart (s t c : Nat) : List (List Int) := (List.range c).flatMap fun c => (tyAll (s - (t - c)) (t - c)).map fun r => ((t - c : Nat) : Int) :: r
theorem tyPart_zero (s t : Nat) : tyPart s t 0 = [] := rfl
theorem tyPart_succ (s t c : Nat) : tyPart s t (c + 1) = tyPart s t c ++ (tyAll (s - (t - c)) (t - c)).map fun r => ((t - c : Nat) : Int) :: r := by
  unfold tyPart
  rw [List.range_succ, List.flatMap_append, List.flatMap_singleton]
theorem tyAll_zero (m : Nat) : tyAll 0 m = [[]] := rfl
theorem tyAll_part {s m : Nat} (h : 0 < s) : tyAll s m = tyPart s (min s m) (min s m) := by
  obtain ⟨u, rfl⟩ : ∃ u, s = u + 1 := ⟨s - 1, by omega⟩
  unfold tyAll tyPart
  rw [tyU, if_neg (by omega)]
  refine flatMap_congrM fun c hc => ?_
  have := List.mem_range.1 hc
  unfold tyAll
  rw [tyU_eq u _ _ _ (by omega) (Nat.le_refl _)]
def rowsOkB (n : Nat) (R : List (List Int)) : Bool := decide (R.length ≤ 77) && R.all fun r => decide (r.length ≤ n)
theorem tyAll_ok0 : ∀ s < 13, ∀ m < 13, rowsOkB s (tyAll s m) = true := by decide +kernel
theorem tyAll_len {s m : Nat} (hs : s ≤ 12) (hm : m ≤ 12) : (tyAll s m).length ≤ 77 := by
  have := tyAll_ok0 s (by omega) m (by omega)
  unfold rowsOkB at this
  rw [Bool.and_eq_true] at this
  exact of_decide_eq_true this.1
theorem tyAll_row {s m : Nat} (hs : s ≤ 12) (hm : m ≤ 12) {r : List Int} (hr : r ∈ tyAll s m) : r.length ≤ s := by
  have := tyAll_ok0 s (by omega) m (by omega)
  unfold rowsOkB at this
  rw [Bool.and_eq_true] at this
  exact of_decide_eq_true (List.all_eq_true.1 this.2 r hr)
theorem tyPart_mono (s t : Nat) {c d : Nat} (h : c ≤ d) : (tyPart s t c).length ≤ (tyPart s t d).length := by
  induction d with
  | zero => obtain rfl : c = 0 := by omega
            exact Nat.le_refl _
  | succ d ih =>
    rcases Nat.lt_or_eq_of_le h with h1 | h1
    · refine Nat.le_trans (ih (by omega)) ?_
      rw [tyPart_succ, List.length_append]; omega
    · rw [h1]; exact Nat.le_refl _
theorem tyPart_len {s m c : Nat} (hs : s ≤ 12) (hm : m ≤ 12) (h0 : 0 < s) (hc : c ≤ min s m) : (tyPart s (min s m) c).length ≤ 77 := by
  refine Nat.le_trans (tyPart_mono s _ hc) ?_
  rw [← tyAll_part h0]
  exact tyAll_len hs hm
/-- How many exchanges have a type: the numbers one after the other, with those before them. -/
def tySame (L : List Int) (n : Int) : Nat → Nat
  | 0 => 0
  | k + 1 => if L.getD k 0 = n then tySame L n k + 1 else 0
def tyDiv (L : List Int) (f : Int) : Nat → Int
  | 0 => f
  | i + 1 => tyDiv L f i / (L.getD i 0 * (tySame L (L.getD i 0) i + 1 : Nat))
def tyCnt (L : List Int) : Int := tyDiv L (fac L.sum.toNat) L.length
theorem sum_bd : ∀ {L : List Int}, (∀ x ∈ L, 1 ≤ x ∧ x ≤ 12) → (L.length : Int) ≤ L.sum ∧ L.sum ≤ 12 * L.length
  | [], _ => by simp
  | a :: L, h => by
    have h1 := h a (List.mem_cons_self ..)
    have h2 := sum_bd (L := L) fun x hx => h x (List.mem_cons_of_mem _ hx)
    rw [List.sum_cons, List.length_cons]
    omega
theorem sum_snoc' (L : List Int) (k : Nat) (h : k < L.length) : (L.take (k + 1)).sum = (L.take k).sum + L.getD k 0 := by
  have e : L.take (k + 1) = L.take k ++ [L.getD k 0] := by rw [List.take_add_one, List.getD_eq_getElem?_getD, List.getElem?_eq_getElem h]; rfl
  rw [e, List.sum_append]; simp
theorem tySame_le (L : List Int) (n : Int) : ∀ k, tySame L n k ≤ k
  | 0 => Nat.le_refl _
  | k + 1 => by
    rw [tySame]
    have := tySame_le L n k
    split <;> omega
theorem tyDiv_bd {L : List Int} (h : ∀ x ∈ L, 1 ≤ x ∧ x ≤ 12) {f : Int} (hf : 0 ≤ f) : ∀ i, i ≤ L.length → 0 ≤ tyDiv L f i ∧ tyDiv L f i ≤ f
  | 0, _ => ⟨hf, Int.le_refl _⟩
  | i + 1, hi => by
    obtain ⟨h1, h2⟩ := tyDiv_bd h hf i (by omega)
    have hx : 1 ≤ L.getD i 0 ∧ L.getD i 0 ≤ 12 := h _ (by rw [List.getD_eq_getElem?_getD, List.getElem?_eq_getElem (by omega)]; exact List.getElem_mem _)
    rw [tyDiv]
    have hp : 0 ≤ L.getD i 0 * ((tySame L (L.getD i 0) i + 1 : Nat) : Int) := Int.mul_nonneg (by omega) (by omega)
    exact ⟨Int.ediv_nonneg h1 hp, Int.le_trans (Int.ediv_le_self _ h1) h2⟩
end Go.Am
