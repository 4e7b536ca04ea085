/- Seatings: who chooses, which ones can come, and the product of the choices. No program. -/
import Derived.Test.YtojbhdkjmaekjaaAmMb
namespace Go.Am
theorem g_un0 {P : Program} {own : Bool} {s : AS} {K : AS → Prop} {d : Option Nat} {op : AOp} {t : Nat} {w : Bool} (h : s.tm t = .v undef) (k : K (s.put d (.v undef))) : aop1 P own ⟨d, op, some (t, w)⟩ s K := .inr ⟨h, k⟩
/-- Does the guest behind those of a list choose a seat? -/
def chs (l : Int) (M : List Int) : Bool := decide ((M.length : Int) < l) || decide ((M.length : Int) ∈ M)
/-- May that guest get a seat? -/
def fitsS (l : Int) (M : List Int) (y : Int) : Bool := !decide (y ∈ M) && (decide (y = (M.length : Int)) || chs l M)
/-- The product of the numbers of free seats for the first k guests who choose. -/
def prodS (l : Int) (L : List Int) : Nat → Nat
  | 0 => 1
  | k + 1 => if chs l (L.take k) then prodS l L k * (L.length - k) else prodS l L k
theorem prodS_le (l : Int) (L : List Int) (hL : L.length ≤ 12) : ∀ k, k ≤ L.length → 1 ≤ prodS l L k ∧ prodS l L k ≤ 12 ^ k
  | 0, _ => by simp [prodS]
  | k + 1, h => by
    obtain ⟨h1, h2⟩ := prodS_le l L hL k (by omega)
    have e : (12 : Nat) ^ (k + 1) = 12 ^ k * 12 := rfl
    simp only [prodS]
    split
    · have m1 : prodS l L k * (L.length - k) ≤ 12 ^ k * 12 := Nat.mul_le_mul h2 (by omega)
      have m2 : 1 * 1 ≤ prodS l L k * (L.length - k) := Nat.mul_le_mul h1 (by omega)
      omega
    · omega
theorem prodS_bound (l : Int) (L : List Int) (hL : L.length ≤ 12) (k : Nat) (h : k ≤ L.length) : 1 ≤ prodS l L k ∧ prodS l L k ≤ 10000000000000 := by
  obtain ⟨h1, h2⟩ := prodS_le l L hL k h
  have : (12 : Nat) ^ k ≤ 12 ^ 12 := Nat.pow_le_pow_right (by decide) (by omega)
  have : (12 : Nat) ^ 12 ≤ 10000000000000 := by decide
  omega
/-- Can the first k guests of a seating come so? -/
def comeK (l : Int) (L : List Int) (k : Nat) : Prop := ∀ j < k, chs l (L.take j) = true ∨ L.getD j 0 = (j : Int)
instance (l : Int) (L : List Int) (k : Nat) : Decidable (comeK l L k) := inferInstanceAs (Decidable (∀ j < k, _))
theorem comeK_succ {l : Int} {L : List Int} {k : Nat} (h : comeK l L k) (h1 : chs l (L.take k) = true ∨ L.getD k 0 = (k : Int)) : comeK l L (k + 1) := by
  intro j hj
  rcases Nat.lt_or_ge j k with h2 | h2
  · exact h j h2
  · obtain rfl : j = k := by omega
    exact h1
/-- In a list without twice the same, a guest fits just if the guest may choose or has the own seat. -/
theorem fitsS_nodup {l : Int} {L : List Int} {k : Nat} (hn : L.getD k 0 ∉ L.take k) (hk : k < L.length) : fitsS l (L.take k) (L.getD k 0) = (decide (L.getD k 0 = (k : Int)) || chs l (L.take k)) := by
  unfold fitsS
  rw [decide_eq_false hn, List.length_take_of_le (by omega)]
  rfl
/-- The displaced ones of the first k guests. -/
def disp (L : List Int) (k : Nat) : List Int := ((List.range k).filter fun (i : Nat) => decide (L.getD i 0 ≠ i)).map fun (i : Nat) => (i : Int)
theorem disp_yes {L : List Int} {k : Nat} (h : L.getD k 0 ≠ k) : disp L (k + 1) = disp L k ++ [(k : Int)] := by
  unfold disp; rw [List.range_succ, List.filter_append, List.map_append, List.filter_cons_of_pos (p := fun (i : Nat) => decide (L.getD i 0 ≠ (i : Int))) (a := k) (decide_eq_true h)]; rfl
theorem disp_no {L : List Int} {k : Nat} (h : L.getD k 0 = k) : disp L (k + 1) = disp L k := by
  unfold disp; rw [List.range_succ, List.filter_append, List.map_append, List.filter_cons_of_neg (p := fun (i : Nat) => decide (L.getD i 0 ≠ (i : Int))) (a := k) (fun e => (of_decide_eq_true e) h)]; simp
theorem disp_le (L : List Int) (k : Nat) : (disp L k).length ≤ k := by
  unfold disp; rw [List.length_map]; exact Nat.le_trans (List.length_filter_le ..) (by simp)
end Go.Am
