/- Tables with no couple together, told in order. No program. -/
import Derived.Test.YtjapgeciogcaiaaMaTb
import Derived.Test.YtjapgeciogcaiaaMaFst
namespace Go.Am

/-- Are the last two of a beginning a couple, or, at its full length, the last one and the first? -/
def Chk (n : Nat) (l : List Int) : Prop := (1 < l.length ∧ l.getD (l.length - 1) 0 / 2 = l.getD (l.length - 2) 0 / 2) ∨ (l.length = n ∧ l.getD (l.length - 1) 0 / 2 = l.getD 0 0 / 2)
instance (n : Nat) (l : List Int) : Decidable (Chk n l) := inferInstanceAs (Decidable (_ ∨ _))
/-- May the guest y sit behind those of M? -/
def fitsT (n : Nat) (M : List Int) (y : Nat) : Bool := if M = [] then decide (y = 0) else !decide ((y : Int) ∈ M) && !decide (Chk n (M ++ [(y : Int)]))
theorem chk_snoc {n : Nat} {M : List Int} {y : Int} (h : M ≠ []) : Chk n (M ++ [y]) ↔ (M.getD (M.length - 1) 0 / 2 = y / 2) ∨ (M.length + 1 = n ∧ M.getD 0 0 / 2 = y / 2) := by
  have hp : 0 < M.length := List.length_pos_iff.2 h
  have e1 : (M ++ [y]).getD ((M ++ [y]).length - 1) 0 = y := by simp
  have e2 : (M ++ [y]).getD ((M ++ [y]).length - 2) 0 = M.getD (M.length - 1) 0 := by
    rw [List.length_append, List.length_singleton, show M.length + 1 - 2 = M.length - 1 by omega, List.getD_eq_getElem?_getD, List.getD_eq_getElem?_getD, List.getElem?_append_left (by omega)]
  have e3 : (M ++ [y]).getD 0 0 = M.getD 0 0 := by
    rw [List.getD_eq_getElem?_getD, List.getD_eq_getElem?_getD, List.getElem?_append_left hp]
  unfold Chk
  rw [e1, e2, e3, List.length_append, List.length_singleton]
  constructor
  · rintro (⟨_, h1⟩ | ⟨h1, h2⟩)
    · exact .inl h1.symm
    · exact .inr ⟨h1, h2.symm⟩
  · rintro (h1 | ⟨h1, h2⟩)
    · exact .inl ⟨by omega, h1.symm⟩
    · exact .inr ⟨h1, h2.symm⟩
theorem chk_one {n : Nat} {x : Int} (h : 2 ≤ n) : ¬ Chk n [x] := by
  rintro (⟨h1, _⟩ | ⟨h1, _⟩)
  · simp at h1
  · simp at h1; omega
theorem goOn_first (n : Nat) : goOn (fitsT (n + 1)) (n + 1) (n + 1) [] = goOn (fitsT (n + 1)) (n + 1) n [0] := by
  rw [goOn]
  have e : (List.range (n + 1)).filter (fun x => fitsT (n + 1) [] x) = [0] := by
    rw [List.range_succ_eq_map, List.filter_cons]
    have h1 : fitsT (n + 1) [] 0 = true := by simp [fitsT]
    rw [if_pos h1, List.filter_eq_nil_iff.2]
    intro x hx
    obtain ⟨y, _, rfl⟩ := List.mem_map.1 hx
    simp [fitsT]
  rw [e]
  simp
theorem fstB_first (n : Nat) (bh : List Int) : fstB (fitsT (n + 1)) (n + 1) (n + 1) [] bh = fstB (fitsT (n + 1)) (n + 1) n [0] bh := by
  unfold fstB
  rw [goOn_first]
theorem fstB_zero {fits : List Int → Nat → Bool} {n : Nat} {l bh : List Int} : fstB fits n 0 l bh = if bh = [] ∨ comesB bh l = true then some l else none := by
  unfold fstB
  by_cases h : bh = []
  · simp [h, goOn]
  · simp only [if_neg h, goOn, List.find?_cons, List.find?_nil, h, false_or]
    cases comesB bh l <;> rfl
theorem partB_mono {fits : List Int → Nat → Bool} {n k : Nat} {l bh m : List Int} {x : Nat} (h : partB fits n k l bh x = some m) : ∀ y, x ≤ y → partB fits n k l bh y = some m := by
  intro y hy
  obtain ⟨d, rfl⟩ := Nat.exists_eq_add_of_le hy
  clear hy
  induction d with
  | zero => exact h
  | succ d ih => rw [Nat.add_succ, partB_succ, ih]; rfl
theorem fitsT_cons {n : Nat} {l : List Int} (h : 0 < l.length) (x : Nat) : fitsT n l x = (!decide ((x : Int) ∈ l) && !decide (Chk n (l ++ [(x : Int)]))) := by
  unfold fitsT
  rw [if_neg (by rintro rfl; simp at h)]
/-- Where a full list differs from another for the first time by less, it doesn't come behind. -/
theorem comesB_less {n i : Nat} {l b : List Int} (hl : i < l.length) (hb : i < b.length) (he : l.take i = b.take i) (hlt : l.getD i 0 < b.getD i 0) : comesB b l = false := by
  have h := find_prune (fitsT n) n (k := 0) hl hb he hlt
  rw [goOn, List.find?_cons, List.find?_nil] at h
  cases hc : comesB b l with
  | false => rfl
  | true => rw [hc] at h; cases h
end Go.Am
