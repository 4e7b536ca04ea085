/- Couples who are together, as sets; numbers put into their order. No program. -/
import Derived.Test.YtkcoccpacaofiaaMaTb
namespace Go.Am

/-- Those of a set, increasing. -/
def nums (a : Nat) : List Int := ((List.range 12).filter fun i => a.testBit i).map fun (i : Nat) => (i : Int)
def numsTo (a k : Nat) : List Int := ((List.range k).filter fun i => a.testBit i).map fun (i : Nat) => (i : Int)
theorem numsTo_yes {a k : Nat} (h : a.testBit k = true) : numsTo a (k + 1) = numsTo a k ++ [(k : Int)] := by
  simp [numsTo, List.range_succ, List.filter_append, h]
theorem numsTo_no {a k : Nat} (h : a.testBit k = false) : numsTo a (k + 1) = numsTo a k := by
  simp [numsTo, List.range_succ, List.filter_append, h]
theorem numsTo_le (a k : Nat) : (numsTo a k).length ≤ k := by
  unfold numsTo
  rw [List.length_map]
  exact Nat.le_trans (List.length_filter_le _ _) (by simp)
theorem nums_le (a : Nat) : (nums a).length ≤ 12 := numsTo_le a 12
theorem mem_nums {a c : Nat} (hc : c < 12) : ((c : Int) ∈ nums a) ↔ a.testBit c = true := by
  unfold nums
  simp only [List.mem_map, List.mem_filter, List.mem_range]
  constructor
  · rintro ⟨x, ⟨_, h⟩, e⟩
    have : x = c := by omega
    exact this ▸ h
  · exact fun h => ⟨c, ⟨hc, h⟩, rfl⟩

/-- A number put into an increasing list. -/
def posI (L : List Int) (n : Int) : Nat := (L.takeWhile fun x => decide (x < n)).length
def putI (L : List Int) (n : Int) : List Int := L.take (posI L n) ++ [n] ++ L.drop (posI L n)
theorem posI_at (n : Int) : ∀ (L : List Int) (k : Nat), k ≤ L.length → (∀ x ∈ L.take k, x < n) → (k = L.length ∨ ¬ L.getD k 0 < n) → posI L n = k
  | [], k, hk, _, _ => by simp at hk; subst hk; rfl
  | a :: L, 0, _, _, h => by
    have h1 : ¬ a < n := by
      rcases h with h | h
      · simp at h
      · simpa using h
    simp [posI, h1]
  | a :: L, k + 1, hk, ha, h => by
    have h1 : a < n := ha a (by simp)
    have h2 := posI_at n L k (by simpa using hk) (fun x hx => ha x (by simp [hx])) (by simpa using h)
    unfold posI at h2 ⊢
    rw [List.takeWhile_cons_of_pos (by simpa using h1), List.length_cons, h2]
theorem putI_len (L : List Int) (n : Int) : (putI L n).length = L.length + 1 := by
  have h : posI L n ≤ L.length := by
    unfold posI
    exact (List.takeWhile_sublist _).length_le
  simp [putI]; omega
theorem putI_nums : ∀ a < 128, ∀ c < 7, Nat.testBit a c = false → putI (nums a) (Int.ofNat c) = nums (a ||| 1 <<< c) := by decide +kernel

/-- The couples who are together among the first k neighbours, as a set. -/
def togT (L : List Int) : Nat → Nat
  | 0 => 0
  | k + 1 => if L.getD k 0 / 2 = L.getD ((k + 1) % L.length) 0 / 2 then togT L k ||| 1 <<< (L.getD k 0 / 2).toNat else togT L k
theorem togT_lt {L : List Int} (h : IsTab L) : ∀ k, k ≤ L.length → togT L k < 128
  | 0, _ => by simp [togT]
  | k + 1, hk => by
    have ih := togT_lt h k (by omega)
    obtain ⟨x, hx, hxl⟩ := tab_get h (k := k) (by omega)
    have h14 := h.2.1
    simp only [togT]
    split
    · have h7 : (L.getD k 0 / 2).toNat < 7 := by omega
      exact Nat.or_lt_two_pow (n := 7) ih (by rw [Nat.one_shiftLeft]; exact Nat.pow_lt_pow_right (by decide) h7)
    · exact ih
theorem togT_yes {L : List Int} {k x y : Nat} (hx : L.getD k 0 = x) (hy : L.getD ((k + 1) % L.length) 0 = y) (h : (x : Int) / 2 = (y : Int) / 2) : togT L (k + 1) = togT L k ||| 1 <<< (x / 2) := by
  simp only [togT]
  rw [hx, hy, if_pos h, show ((x : Int) / 2).toNat = x / 2 by omega]
theorem togT_no {L : List Int} {k x y : Nat} (hx : L.getD k 0 = x) (hy : L.getD ((k + 1) % L.length) 0 = y) (h : ¬ (x : Int) / 2 = (y : Int) / 2) : togT L (k + 1) = togT L k := by
  simp only [togT]
  rw [hx, hy, if_neg h]
def rowT' (L : List Int) : Nat := togT L (L.length - 1)
def aroundT (L : List Int) : Nat := togT L L.length
def togR (L : List Int) (a : Nat) : List Int := if IsTab L then nums a else []
theorem togR_le (L : List Int) (a : Nat) : (togR L a).length ≤ 12 := by
  unfold togR; split
  · exact nums_le a
  · simp
end Go.Am
