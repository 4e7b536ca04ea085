/- Boards as texts: cut into rows, joined again, read at a place. No program. -/
import Derived.Test.YtojpcpdbnmnknaaDoorAmU
import Derived.Lib.Bytealg
namespace Go.Am

/-- A text cut at slashes, at most k times. -/
def splitNB : Nat → List UInt8 → List (List UInt8)
  | 0, B => [B]
  | k + 1, B => if (47 : UInt8) ∈ B then B.takeWhile (· != 47) :: splitNB k (B.drop ((B.takeWhile (· != 47)).length + 1)) else [B]
/-- A text cut at all slashes. -/
def splitB (B : List UInt8) : List (List UInt8) := splitNB (B.count 47) B
def joinB : List (List UInt8) → List UInt8
  | [] => []
  | r :: rs => r ++ rs.flatMap fun x => 47 :: x

theorem takeWhile_cut {p q : List UInt8} (h : (47 : UInt8) ∉ p) : (p ++ 47 :: q).takeWhile (· != 47) = p := by
  induction p with
  | nil => simp
  | cons a p ih =>
    have h1 : a ≠ 47 := fun e => h (by simp [e])
    simp [h1, ih (fun hh => h (by simp [hh]))]
theorem splitNB_cut {p q : List UInt8} (h : (47 : UInt8) ∉ p) (k : Nat) : splitNB (k + 1) (p ++ 47 :: q) = p :: splitNB k q := by
  rw [splitNB, if_pos (by simp), takeWhile_cut h]
  congr 2
  rw [List.drop_append, List.drop_of_length_le (by omega)]
  simp
theorem splitNB_one {B : List UInt8} (h : (47 : UInt8) ∉ B) (k : Nat) : splitNB k B = [B] := by
  cases k with
  | zero => rfl
  | succ k => rw [splitNB, if_neg h]
theorem cut_at {B : List UInt8} (h : (47 : UInt8) ∈ B) : ∃ p q, (47 : UInt8) ∉ p ∧ B = p ++ 47 :: q := by
  induction B with
  | nil => simp at h
  | cons a B ih =>
    by_cases ha : a = 47
    · exact ⟨[], B, by simp, by simp [ha]⟩
    · have hm : (47 : UInt8) ∈ B := by
        rcases List.mem_cons.1 h with e | e
        · exact absurd e.symm ha
        · exact e
      obtain ⟨p, q, h1, h2⟩ := ih hm
      exact ⟨a :: p, q, by simp [h1]; exact fun e => ha e.symm, by simp [h2]⟩
theorem count_cut {p q : List UInt8} (h : (47 : UInt8) ∉ p) : (p ++ 47 :: q).count 47 = q.count 47 + 1 := by
  rw [List.count_append, List.count_eq_zero.2 h, List.count_cons_self]
  omega
theorem splitB_cut {p q : List UInt8} (h : (47 : UInt8) ∉ p) : splitB (p ++ 47 :: q) = p :: splitB q := by
  unfold splitB
  rw [count_cut h, splitNB_cut h]
theorem splitB_one {B : List UInt8} (h : (47 : UInt8) ∉ B) : splitB B = [B] := splitNB_one h _
theorem splitNB_len : ∀ (k : Nat) (B : List UInt8), (splitNB k B).length = min k (B.count 47) + 1
  | 0, B => by simp [splitNB]
  | k + 1, B => by
    by_cases h : (47 : UInt8) ∈ B
    · obtain ⟨p, q, h1, rfl⟩ := cut_at h
      rw [splitNB_cut h1, List.length_cons, splitNB_len k q, count_cut h1]
      omega
    · rw [splitNB_one h, List.count_eq_zero.2 h]
      simp
theorem splitNB_all : ∀ (k : Nat) (B : List UInt8), B.count 47 ≤ k → splitNB k B = splitB B
  | k, B, hk => by
    by_cases h : (47 : UInt8) ∈ B
    · obtain ⟨p, q, h1, rfl⟩ := cut_at h
      rw [count_cut h1] at hk
      cases k with
      | zero => omega
      | succ k => rw [splitNB_cut h1, splitB_cut h1, splitNB_all k q (by omega)]
    · rw [splitNB_one h, splitB_one h]
theorem splitB_len (B : List UInt8) : (splitB B).length = B.count 47 + 1 := by
  unfold splitB
  rw [splitNB_len]
  omega
theorem splitNB_ne (k : Nat) (B : List UInt8) : splitNB k B ≠ [] := fun h => by
  have := splitNB_len k B
  rw [h] at this
  simp at this
theorem joinB_cons {r : List UInt8} {rs : List (List UInt8)} (h : rs ≠ []) : joinB (r :: rs) = r ++ 47 :: joinB rs := by
  cases rs with
  | nil => exact absurd rfl h
  | cons a l => simp [joinB]
theorem joinB_split : ∀ (k : Nat) (B : List UInt8), joinB (splitNB k B) = B
  | 0, B => by simp [splitNB, joinB]
  | k + 1, B => by
    by_cases h : (47 : UInt8) ∈ B
    · obtain ⟨p, q, h1, rfl⟩ := cut_at h
      rw [splitNB_cut h1, joinB_cons (splitNB_ne k q), joinB_split k q]
    · rw [splitNB_one h]
      simp [joinB]
theorem joinB_snoc (l : List (List UInt8)) (x : List UInt8) : joinB (l ++ [x]) = joinB l ++ (if 0 < l.length then [47] else []) ++ x := by
  cases l with
  | nil => simp [joinB]
  | cons r rs => simp [joinB]
/-- A board that is well told: as many rows as there are signs in each, all of them signs. -/
def GoodBd (B : List UInt8) : Prop := B.count 47 ≤ 7 ∧ ∀ r ∈ splitB B, r.length = B.count 47 + 1 ∧ ∀ c ∈ r, c = 46 ∨ c = 35
instance (B : List UInt8) : Decidable (GoodBd B) := inferInstanceAs (Decidable (_ ∧ _))
/-- The side of a board, and what is forbidden. -/
def sdB (B : List UInt8) : Nat := B.count 47 + 1
def fbB (B : List UInt8) (i j : Nat) : Bool := decide (((splitB B).getD i []).getD j 0 = 35)
theorem getD_get {α : Type} {l : List α} {d : α} {j : Nat} (h : j < l.length) : l.getD j d = l[j] := by simp [h]
theorem good_row {B : List UInt8} (h : GoodBd B) {i : Nat} (hi : i < sdB B) : (splitB B).getD i [] = rowT (fbB B) i (sdB B) := by
  have hl := splitB_len B
  have hm : (splitB B).getD i [] ∈ splitB B := getD_memL (by unfold sdB at hi; omega)
  obtain ⟨h1, h2⟩ := h.2 _ hm
  apply List.ext_getElem
  · rw [h1, rowT_len]; rfl
  · intro j hj1 hj2
    have hc := h2 _ (List.getElem_mem hj1)
    have hg : ((splitB B).getD i []).getD j 0 = ((splitB B).getD i [])[j] := getD_get hj1
    simp only [rowT, List.getElem_map, List.getElem_range, fbB, hg]
    rcases hc with hc | hc
    · rw [hc]; rfl
    · rw [hc]; rfl
theorem join_take {B : List UInt8} (h : GoodBd B) : ∀ k, k ≤ sdB B → joinB ((splitB B).take k) = bdT (fbB B) (sdB B) k
  | 0, _ => by simp [joinB, bdT]
  | k + 1, hk => by
    have hl := splitB_len B
    rw [take_snoc (splitB B) k [] (by unfold sdB at hk; omega), joinB_snoc, join_take h k (by omega), good_row h (by omega), List.length_take_of_le (by unfold sdB at hk; omega)]
    rfl
theorem good_text {B : List UInt8} (h : GoodBd B) : B = bdT (fbB B) (sdB B) (sdB B) := by
  have hl := splitB_len B
  have := join_take h (sdB B) (Nat.le_refl _)
  rw [List.take_of_length_le (by unfold sdB; omega)] at this
  rw [← this]
  exact (joinB_split _ B).symm
theorem bdT_len2 (fb : Nat → Nat → Bool) (n : Nat) : ∀ k, (bdT fb n k).length = k * (n + 1) - 1
  | 0 => by simp [bdT]
  | k + 1 => by
    simp only [bdT, List.length_append, rowT_len, bdT_len2 fb n k]
    rcases Nat.eq_zero_or_pos k with h | h
    · subst h; simp
    · rw [if_pos h, Nat.add_mul]
      have : 1 ≤ k * (n + 1) := Nat.mul_pos h (by omega)
      simp
      omega
theorem getD_app_l {α : Type} {a b : List α} {d : α} {i : Nat} (h : i < a.length) : (a ++ b).getD i d = a.getD i d := by
  rw [getD_get (show i < (a ++ b).length by rw [List.length_append]; omega), getD_get h, List.getElem_append_left h]
theorem getD_app_r {α : Type} {a b : List α} {d : α} {i : Nat} (h : a.length ≤ i) : (a ++ b).getD i d = b.getD (i - a.length) d := by
  simp [List.getElem?_append, Nat.not_lt.2 h]
theorem bdT_at (fb : Nat → Nat → Bool) (n : Nat) : ∀ k i j, i < k → j < n → (bdT fb n k).getD (i * (n + 1) + j) 0 = sgn (fb i j)
  | 0, i, j, hi, _ => by omega
  | k + 1, i, j, hi, hj => by
    have hl := bdT_len2 fb n k
    by_cases hik : i < k
    · have h1 : i * (n + 1) + j < (bdT fb n k).length := by
        have : (i + 1) * (n + 1) ≤ k * (n + 1) := Nat.mul_le_mul_right _ hik
        rw [Nat.add_mul] at this
        omega
      simp only [bdT]
      rw [List.append_assoc, getD_app_l h1]
      exact bdT_at fb n k i j hik hj
    · obtain rfl : i = k := by omega
      have hp : (bdT fb n i ++ (if 0 < i then [47] else [])).length = i * (n + 1) := by
        rw [List.length_append, hl]
        rcases Nat.eq_zero_or_pos i with h | h
        · subst h; simp
        · have : 1 ≤ i * (n + 1) := Nat.mul_pos h (by omega)
          rw [if_pos h]; simp; omega
      simp only [bdT]
      rw [getD_app_r (by omega), hp, Nat.add_sub_cancel_left]
      simp [rowT, hj]
theorem good_at {B : List UInt8} (h : GoodBd B) {i j : Nat} (hi : i < sdB B) (hj : j < sdB B) : B.getD (i * (sdB B + 1) + j) 0 = sgn (fbB B i j) := by
  have h1 := bdT_at (fbB B) (sdB B) (sdB B) i j hi hj
  rw [← good_text h] at h1
  exact h1
theorem good_len {B : List UInt8} (h : GoodBd B) : B.length = sdB B * (sdB B + 1) - 1 := by
  have h1 := bdT_len2 (fbB B) (sdB B) (sdB B)
  rw [← good_text h] at h1
  exact h1
theorem good_sd {B : List UInt8} (h : GoodBd B) : 1 ≤ sdB B ∧ sdB B ≤ 8 := ⟨by unfold sdB; omega, by have := h.1; unfold sdB; omega⟩
theorem good_len72 {B : List UInt8} (h : GoodBd B) : B.length ≤ 71 := by
  have h1 := good_len h
  have h2 := good_sd h
  have : sdB B * (sdB B + 1) ≤ 8 * 9 := Nat.mul_le_mul h2.2 (by omega)
  omega
/-- A text of a board is one, with what it was made of. -/
theorem rowT_no (fb : Nat → Nat → Bool) (i k : Nat) : (47 : UInt8) ∉ rowT fb i k := by
  simp only [rowT, List.mem_map, not_exists, not_and]
  intro j _ h
  unfold sgn at h
  split at h <;> cases h
theorem indexByte_cut {p q : List UInt8} (h : (47 : UInt8) ∉ p) : Lib.indexByte (p ++ 47 :: q) 47 = p.length := by
  induction p with
  | nil => simp [Lib.indexByte]
  | cons a p ih =>
    have h1 : (a == 47) = false := by
      rw [beq_eq_false_iff_ne]
      exact fun e => h (by simp [e])
    have h2 := ih (fun hh => h (by simp [hh]))
    rw [List.cons_append, Lib.indexByte, h1, h2]
    have : ((p.length : Int) == -1) = false := by
      rw [beq_eq_false_iff_ne]; omega
    simp [this]
theorem indexByte_none {B : List UInt8} (h : (47 : UInt8) ∉ B) : Lib.indexByte B 47 = -1 := by
  induction B with
  | nil => rfl
  | cons a p ih =>
    have h1 : (a == 47) = false := by
      rw [beq_eq_false_iff_ne]
      exact fun e => h (by simp [e])
    rw [Lib.indexByte, h1, ih (fun hh => h (by simp [hh]))]
    rfl

/- The forbidden places as a map's entries. -/
def keyP (a b : Int) : Value := .agg #[.int .i64 a, .int .i64 b]
theorem keyP_inj {a b c d : Int} (h : keyP a b = keyP c d) : a = c ∧ b = d := by
  simp only [keyP, Value.agg.injEq, Array.mk.injEq, List.cons.injEq, Value.int.injEq, true_and, and_true] at h
  exact h
def entP (p : Nat × Nat) (born : Nat) : MapEntry := { key := keyP p.1 p.2, val := .bool true, born }
def mkEsL : Nat → List (Nat × Nat) → List MapEntry
  | _, [] => []
  | c, p :: l => entP p c :: mkEsL (c + 1) l
def mkEs (l : List (Nat × Nat)) : Array MapEntry := (mkEsL 0 l).toArray
theorem mkEsL_snoc (l : List (Nat × Nat)) (p : Nat × Nat) : ∀ c, mkEsL c (l ++ [p]) = mkEsL c l ++ [entP p (c + l.length)] := by
  induction l with
  | nil => intro c; simp [mkEsL]
  | cons a l ih => intro c; rw [List.cons_append, mkEsL, mkEsL, ih, List.length_cons, show c + 1 + l.length = c + (l.length + 1) by omega]; rfl
theorem mkEs_push (l : List (Nat × Nat)) (p : Nat × Nat) : (mkEs l).push { key := keyP p.1 p.2, val := .bool true, born := l.length } = mkEs (l ++ [p]) := by
  unfold mkEs
  rw [mkEsL_snoc, Nat.zero_add]
  simp [entP]
theorem mem_mkEsL {l : List (Nat × Nat)} {e : MapEntry} : ∀ {c}, e ∈ mkEsL c l → ∃ p ∈ l, e.key = keyP p.1 p.2 ∧ e.val = .bool true := by
  induction l with
  | nil => intro c h; simp [mkEsL] at h
  | cons a l ih =>
    intro c h
    simp only [mkEsL, List.mem_cons] at h
    rcases h with rfl | h
    · exact ⟨a, by simp, rfl, rfl⟩
    · obtain ⟨p, h1, h2⟩ := ih h
      exact ⟨p, by simp [h1], h2⟩
theorem mem_mkEs {l : List (Nat × Nat)} {e : MapEntry} (h : e ∈ (mkEs l).toList) : ∃ p ∈ l, e.key = keyP p.1 p.2 ∧ e.val = .bool true := mem_mkEsL (c := 0) (by simpa [mkEs] using h)
theorem has_mkEsL {l : List (Nat × Nat)} {p : Nat × Nat} (h : p ∈ l) : ∀ c, ∃ e ∈ mkEsL c l, e.key = keyP p.1 p.2 := by
  induction l with
  | nil => simp at h
  | cons a l ih =>
    intro c
    rcases List.mem_cons.1 h with rfl | h
    · exact ⟨entP p c, by simp [mkEsL], rfl⟩
    · obtain ⟨e, h1, h2⟩ := ih h (c + 1)
      exact ⟨e, by simp [mkEsL, h1], h2⟩
theorem has_mkEs {l : List (Nat × Nat)} {p : Nat × Nat} (h : p ∈ l) : ∃ e ∈ (mkEs l).toList, e.key = keyP p.1 p.2 := by
  obtain ⟨e, h1, h2⟩ := has_mkEsL h 0
  exact ⟨e, by simpa [mkEs] using h1, h2⟩
/-- Is a place, told by any numbers, in a list? -/
def hasP (l : List (Nat × Nat)) (a b : Int) : Bool := l.any fun p => decide ((p.1 : Int) = a) && decide ((p.2 : Int) = b)
/-- The forbidden places of the first rows, and of a row's beginning. -/
def rowP (fb : Nat → Nat → Bool) (i k : Nat) : List (Nat × Nat) := ((List.range k).filter fun j => fb i j).map fun j => (i, j)
def posP (fb : Nat → Nat → Bool) (n : Nat) : Nat → List (Nat × Nat)
  | 0 => []
  | k + 1 => posP fb n k ++ rowP fb k n
theorem rowP_snoc (fb : Nat → Nat → Bool) (i k : Nat) : rowP fb i (k + 1) = rowP fb i k ++ (if fb i k then [(i, k)] else []) := by
  simp only [rowP, List.range_succ, List.filter_append, List.map_append, List.filter_cons, List.filter_nil]
  split <;> simp
theorem mem_rowP {fb : Nat → Nat → Bool} {i k : Nat} {p : Nat × Nat} : p ∈ rowP fb i k ↔ p.1 = i ∧ p.2 < k ∧ fb i p.2 = true := by
  simp only [rowP, List.mem_map, List.mem_filter, List.mem_range]
  constructor
  · rintro ⟨j, ⟨h1, h2⟩, rfl⟩; exact ⟨rfl, h1, h2⟩
  · rintro ⟨h1, h2, h3⟩; exact ⟨p.2, ⟨h2, h3⟩, by rw [← h1]⟩
theorem mem_posP {fb : Nat → Nat → Bool} {n : Nat} {p : Nat × Nat} : ∀ {k}, p ∈ posP fb n k ↔ p.1 < k ∧ p.2 < n ∧ fb p.1 p.2 = true
  | 0 => by simp [posP]
  | k + 1 => by
    simp only [posP, List.mem_append, mem_posP (k := k), mem_rowP]
    constructor
    · rintro (⟨h1, h2, h3⟩ | ⟨h1, h2, h3⟩)
      · exact ⟨by omega, h2, h3⟩
      · exact ⟨by omega, h2, by rw [h1]; exact h3⟩
    · rintro ⟨h1, h2, h3⟩
      by_cases h : p.1 = k
      · exact .inr ⟨h, h2, by rw [← h]; exact h3⟩
      · exact .inl ⟨by omega, h2, h3⟩
theorem hasP_pos (fb : Nat → Nat → Bool) (n : Nat) (a b : Int) : hasP (posP fb n n) a b = (decide (0 ≤ a ∧ a < n ∧ 0 ≤ b ∧ b < n) && fb a.toNat b.toNat) := by
  rw [Bool.eq_iff_iff]
  simp only [hasP, List.any_eq_true, Bool.and_eq_true, decide_eq_true_eq]
  constructor
  · rintro ⟨p, hp, h1, h2⟩
    obtain ⟨h3, h4, h5⟩ := mem_posP.1 hp
    subst h1; subst h2
    exact ⟨⟨by omega, by omega, by omega, by omega⟩, by simpa using h5⟩
  · rintro ⟨⟨h1, h2, h3, h4⟩, h5⟩
    refine ⟨(a.toNat, b.toNat), mem_posP.2 ⟨by show a.toNat < n; omega, by show b.toNat < n; omega, h5⟩, ?_, ?_⟩
    · show ((a.toNat : Nat) : Int) = a; omega
    · show ((b.toNat : Nat) : Int) = b; omega
end Go.Am
