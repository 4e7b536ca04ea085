/- The first list that goes on from another, behind a list if that is not empty. No program. -/
import Derived.Test.YtjapgeciogcaiaaMaLook
namespace Go.Am
/-- A member of what goes on is found. -/
theorem goOn_len {fits : List Int → Nat → Bool} {n k : Nat} {l m : List Int} (h : m ∈ goOn fits n k l) : m.length = l.length + k := by
  obtain ⟨r, rfl, hr⟩ := goOn_shape fits n _ _ _ h
  rw [List.length_append, hr]
/-- The first that goes on from l, behind a list if that is not empty. -/
def fstB (fits : List Int → Nat → Bool) (n k : Nat) (l bh : List Int) : Option (List Int) := if bh = [] then (goOn fits n k l).head? else (goOn fits n k l).find? (fun m => comesB bh m)
theorem fstB_len {fits : List Int → Nat → Bool} {n k : Nat} {l bh m : List Int} (h : fstB fits n k l bh = some m) : m.length = l.length + k := by
  unfold fstB at h
  split at h
  · exact goOn_len (List.mem_of_mem_head? (by rw [h]; rfl))
  · exact goOn_len (List.mem_of_find?_eq_some h)
theorem fstB_leaf {fits : List Int → Nat → Bool} {n : Nat} {l bh m : List Int} (h : fstB fits n 0 l bh = some m) : m = l := by
  unfold fstB at h
  split at h
  · cases h; rfl
  · have := List.mem_of_find?_eq_some h
    simpa [goOn] using this
/-- What is found among the first nexts. -/
def partB (fits : List Int → Nat → Bool) (n k : Nat) (l bh : List Int) (x : Nat) : Option (List Int) := (List.range x).findSome? fun x => if fits l x then fstB fits n k (l ++ [(x : Int)]) bh else none
theorem partB_zero (fits : List Int → Nat → Bool) (n k : Nat) (l bh : List Int) : partB fits n k l bh 0 = none := rfl
theorem partB_succ (fits : List Int → Nat → Bool) (n k : Nat) (l bh : List Int) (x : Nat) : partB fits n k l bh (x + 1) = (partB fits n k l bh x).or (if fits l x then fstB fits n k (l ++ [(x : Int)]) bh else none) := by
  unfold partB
  rw [List.range_succ, List.findSome?_append]
  simp
theorem findSome_filter {α β : Type} (p : α → Bool) (f : α → Option β) : ∀ l : List α, (l.filter p).findSome? f = l.findSome? fun x => if p x then f x else none
  | [] => rfl
  | a :: l => by
    simp only [List.filter_cons, List.findSome?_cons]
    cases p a
    · simp only [Bool.false_eq_true, if_false]
      exact findSome_filter p f l
    · simp only [if_true, List.findSome?_cons, findSome_filter p f l]
theorem partB_all (fits : List Int → Nat → Bool) (n k : Nat) (l bh : List Int) : partB fits n k l bh n = fstB fits n (k + 1) l bh := by
  unfold partB fstB
  by_cases h : bh = []
  · simp only [if_pos h]
    rw [goOn, List.head?_flatMap, findSome_filter]
  · simp only [if_neg h]
    rw [goOn, List.find?_flatMap, findSome_filter]
end Go.Am
