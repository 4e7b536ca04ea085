/- Families, as lists of integers alone: how far they are told, how many they are, how many guests each has. -/
import Derived.Test.YtlcjipgnflncfaaAmMb
namespace Go.Am

/-- Families read on from n that were told: how many are told behind them. -/
def famFold : List Int → Int → Option Int
  | [], n => some n
  | f :: l, n => if 0 ≤ f ∧ f ≤ n then famFold l (if f = n then n + 1 else n) else none

theorem famFold_append (l : List Int) (m : List Int) : ∀ n : Int, famFold (l ++ m) n = (famFold l n).bind (famFold m) := by
  induction l with
  | nil => intro n; rfl
  | cons f l ih =>
    intro n
    simp only [List.cons_append, famFold]
    split
    · exact ih _
    · rfl

theorem famFold_snoc (l : List Int) (f n : Int) : famFold (l ++ [f]) n = (famFold l n).bind fun m => if 0 ≤ f ∧ f ≤ m then some (if f = m then m + 1 else m) else none := by
  rw [famFold_append]; rfl

theorem famFold_le : ∀ (l : List Int) (n m : Int), famFold l n = some m → n ≤ m ∧ m ≤ n + l.length
  | [], n, m, h => by simp only [famFold, Option.some.injEq] at h; simp; omega
  | f :: l, n, m, h => by
    simp only [famFold] at h
    split at h
    · have := famFold_le l _ _ h
      simp only [List.length_cons]
      split at this <;> omega
    · cases h

def IsFam (L : List Int) : Prop := 1 ≤ L.length ∧ L.length ≤ 9 ∧ (famFold L 0).isSome = true
instance (L : List Int) : Decidable (IsFam L) := inferInstanceAs (Decidable (_ ∧ _ ∧ _))
/-- How many families there are. -/
def famN (L : List Int) : Int := (famFold L 0).getD 0

theorem fam_fold {L : List Int} (h : IsFam L) : famFold L 0 = some (famN L) := by
  obtain ⟨n, hn⟩ := Option.isSome_iff_exists.1 h.2.2
  rw [famN, hn]; rfl

theorem famFold_take {L : List Int} {m : Int} (h : famFold L 0 = some m) (k : Nat) : ∃ n, famFold (L.take k) 0 = some n := by
  rw [← List.take_append_drop k L, famFold_append, Option.bind_eq_some_iff] at h
  obtain ⟨n, h1, _⟩ := h
  exact ⟨n, h1⟩

/-- Families are told from 0 up to how many there are, each at least once. -/
theorem famFold_mem : ∀ (l : List Int) (n m : Int), famFold l n = some m → (∀ f ∈ l, 0 ≤ f ∧ f < m) ∧ ∀ f, n ≤ f → f < m → f ∈ l
  | [], n, m, h => by
    simp only [famFold, Option.some.injEq] at h
    refine ⟨by simp, fun f h1 h2 => by omega⟩
  | f :: l, n, m, h => by
    simp only [famFold] at h
    split at h
    · rename_i hf
      have hl := famFold_le _ _ _ h
      obtain ⟨h1, h2⟩ := famFold_mem l _ _ h
      refine ⟨fun g hg => ?_, fun g hg hgm => ?_⟩
      · rcases List.mem_cons.1 hg with rfl | hg
        · split at hl <;> omega
        · exact h1 g hg
      · by_cases hgf : g = f
        · rw [hgf]; exact List.mem_cons_self ..
        · refine List.mem_cons_of_mem _ (h2 g ?_ hgm)
          split <;> omega
    · cases h

theorem fam_range {L : List Int} (h : IsFam L) {f : Int} (hf : f ∈ L) : 0 ≤ f ∧ f < famN L := (famFold_mem _ _ _ (fam_fold h)).1 f hf
theorem fam_each {L : List Int} (h : IsFam L) {f : Int} (h0 : 0 ≤ f) (h1 : f < famN L) : f ∈ L := (famFold_mem _ _ _ (fam_fold h)).2 f h0 h1
theorem famN_le {L : List Int} (h : IsFam L) : 1 ≤ famN L ∧ famN L ≤ L.length := by
  have h1 := famFold_le _ _ _ (fam_fold h)
  obtain ⟨f, l, rfl⟩ : ∃ f l, L = f :: l := by
    cases L with
    | nil => have := h.1; simp at this
    | cons f l => exact ⟨f, l, rfl⟩
  have := fam_range h (List.mem_cons_self (a := f) (l := l))
  omega

/-- How often a number stands in a list, as an integer. -/
def cntI (L : List Int) (f : Int) : Int := (L.count f : Nat)
theorem cntI_snoc (L : List Int) (x f : Int) : cntI (L ++ [x]) f = cntI L f + if x = f then 1 else 0 := by
  unfold cntI
  rw [List.count_append, List.count_singleton]
  by_cases h : x = f
  · subst h; simp
  · simp [h]
theorem cntI_le (L : List Int) (f : Int) : 0 ≤ cntI L f ∧ cntI L f ≤ L.length := by
  unfold cntI
  have := List.count_le_length (a := f) (l := L)
  omega
/-- The sizes of the families 0 up to m - 1. -/
def sizesOf (L : List Int) (m : Nat) : List Int := (List.range m).map fun (f : Nat) => cntI L f
theorem sizesOf_len (L : List Int) (m : Nat) : (sizesOf L m).length = m := by simp [sizesOf]
theorem sizesOf_get (L : List Int) (m : Nat) {f : Nat} (h : f < m) : (sizesOf L m).getD f 0 = cntI L f := by simp [sizesOf, h]
theorem sizesOf_snoc (L : List Int) (m : Nat) {f : Nat} (h : f < m) : (sizesOf L m).set f ((sizesOf L m).getD f 0 + 1) = sizesOf (L ++ [(f : Int)]) m := by
  rw [sizesOf_get _ _ h]
  apply List.ext_getElem?
  intro j
  rw [List.getElem?_set]
  by_cases hj : j < m
  · by_cases hf : f = j
    · subst hf
      simp [sizesOf, h, cntI_snoc]
    · have : ¬ (f : Int) = (j : Int) := by omega
      simp [sizesOf, hj, hf, cntI_snoc, this]
  · by_cases hf : f = j
    · omega
    · simp [sizesOf, hj, hf]
theorem cntI_zero {L : List Int} {f : Int} (h : f ∉ L) : cntI L f = 0 := by
  unfold cntI; rw [List.count_eq_zero_of_not_mem h]; rfl
theorem sizesOf_new (L : List Int) (m : Nat) (h : ∀ f ∈ L, f < m) : sizesOf L m ++ [1] = sizesOf (L ++ [(m : Int)]) (m + 1) := by
  have e : cntI L m = 0 := cntI_zero fun hm => by have := h _ hm; omega
  unfold sizesOf
  rw [List.range_succ, List.map_append, List.map_singleton, cntI_snoc, e]
  congr 1
  · refine List.map_congr_left fun f hf => ?_
    rw [List.mem_range] at hf
    have : ¬ (m : Int) = (f : Int) := by omega
    rw [cntI_snoc, if_neg this, Int.add_zero]
  · simp

/-- The greatest number of a list. -/
def maxI : List Int → Int
  | [] => 0
  | x :: l => l.foldl (fun a b => if b > a then b else a) x
theorem maxI_snoc (L : List Int) (x : Int) (h : L ≠ []) : maxI (L ++ [x]) = if x > maxI L then x else maxI L := by
  cases L with
  | nil => exact absurd rfl h
  | cons y l => simp [maxI, List.foldl_append]
theorem foldl_max (l : List Int) : ∀ x : Int, x ≤ l.foldl (fun a b => if b > a then b else a) x ∧ (∀ y ∈ l, y ≤ l.foldl (fun a b => if b > a then b else a) x) ∧
    (l.foldl (fun a b => if b > a then b else a) x = x ∨ l.foldl (fun a b => if b > a then b else a) x ∈ l) := by
  induction l with
  | nil => intro x; simp
  | cons z l ih =>
    intro x
    simp only [List.foldl_cons]
    obtain ⟨h1, h2, h3⟩ := ih (if z > x then z else x)
    generalize l.foldl (fun a b => if b > a then b else a) (if z > x then z else x) = r at h1 h2 h3 ⊢
    refine ⟨by split at h1 <;> omega, fun y hy => ?_, ?_⟩
    · rcases List.mem_cons.1 hy with rfl | hy
      · split at h1 <;> omega
      · exact h2 y hy
    · rcases h3 with h3 | h3
      · rw [h3]
        split
        · exact .inr (List.mem_cons_self ..)
        · exact .inl rfl
      · exact .inr (List.mem_cons_of_mem _ h3)
theorem maxI_ge {L : List Int} {x : Int} (h : x ∈ L) : x ≤ maxI L := by
  cases L with
  | nil => simp at h
  | cons y l =>
    obtain ⟨h1, h2, _⟩ := foldl_max l y
    rcases List.mem_cons.1 h with rfl | h
    · exact h1
    · exact h2 x h
theorem maxI_mem {L : List Int} (h : L ≠ []) : maxI L ∈ L := by
  cases L with
  | nil => exact absurd rfl h
  | cons y l =>
    obtain ⟨_, _, h3⟩ := foldl_max l y
    show l.foldl _ y ∈ _
    rcases h3 with h3 | h3
    · rw [h3]; exact List.mem_cons_self ..
    · exact List.mem_cons_of_mem _ h3
theorem maxI_eq {L : List Int} {m : Int} (h : m ∈ L) (hm : ∀ x ∈ L, x ≤ m) : maxI L = m := by
  have h1 := maxI_ge h
  have h2 := hm _ (maxI_mem (L := L) (by intro e; rw [e] at h; simp at h))
  omega
theorem fam_max {L : List Int} (h : IsFam L) : maxI L = famN L - 1 := by
  have := famN_le h
  exact maxI_eq (fam_each h (by omega) (by omega)) fun x hx => by have := fam_range h hx; omega
end Go.Am
