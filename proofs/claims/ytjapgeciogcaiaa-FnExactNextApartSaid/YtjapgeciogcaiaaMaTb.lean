/- Tables of couples, as lists alone: turned and mirrored ones, the first of them; sets as bits. No program. -/
import Derived.Test.YtjapgeciogcaiaaMaLook
import Derived.Test.YtjapgeciogcaiaaAmX
namespace Go.Am

/-- What a table is. -/
def IsTab (L : List Int) : Prop := 2 ≤ L.length ∧ L.length ≤ 14 ∧ L.length % 2 = 0 ∧ (∀ x ∈ L, 0 ≤ x ∧ x < L.length) ∧ L.Nodup
instance (L : List Int) : Decidable (IsTab L) := inferInstanceAs (Decidable (_ ∧ _ ∧ _ ∧ _ ∧ _))

theorem pig_le : ∀ (l m : List Int), l.Nodup → (∀ x ∈ l, x ∈ m) → l.length ≤ m.length
  | [], _, _, _ => Nat.zero_le _
  | a :: l, m, hn, hs => by
    rw [List.nodup_cons] at hn
    have ha : a ∈ m := hs a (List.mem_cons_self ..)
    have h1 := pig_le l (m.erase a) hn.2 fun x hx => (List.mem_erase_of_ne (show x ≠ a from fun e => hn.1 (e ▸ hx))).2 (hs x (List.mem_cons_of_mem _ hx))
    rw [List.length_erase_of_mem ha] at h1
    have := List.length_pos_of_mem ha
    simp only [List.length_cons]
    omega
theorem tab_mem {L : List Int} (h : IsTab L) {i : Nat} (hi : i < L.length) : (i : Int) ∈ L := by
  refine Decidable.byContradiction fun hne => ?_
  have h1 := pig_le ((i : Int) :: L) ((List.range L.length).map fun (k : Nat) => (k : Int)) (List.nodup_cons.2 ⟨hne, h.2.2.2.2⟩) fun x hx => by
    have hx2 : 0 ≤ x ∧ x < L.length := by
      rcases List.mem_cons.1 hx with rfl | hx
      · omega
      · exact h.2.2.2.1 x hx
    obtain ⟨q, rfl⟩ := Int.eq_ofNat_of_zero_le hx2.1
    exact List.mem_map.2 ⟨q, List.mem_range.2 (by omega), rfl⟩
  simp only [List.length_cons, List.length_map, List.length_range] at h1
  omega
theorem tab_at {L : List Int} (h : IsTab L) {i : Nat} (hi : i < L.length) : ∃ j : Nat, j < L.length ∧ L.getD j 0 = i := by
  obtain ⟨j, hj, e⟩ := List.getElem_of_mem (tab_mem h hi)
  exact ⟨j, hj, by simp [hj, e]⟩
theorem tab_get {L : List Int} (h : IsTab L) {k : Nat} (hk : k < L.length) : ∃ x : Nat, L.getD k 0 = x ∧ x < L.length := by
  have hr := h.2.2.2.1 _ (show L.getD k 0 ∈ L by simp [hk])
  obtain ⟨x, hx⟩ := Int.eq_ofNat_of_zero_le hr.1
  exact ⟨x, hx, by omega⟩
theorem tab_inj {L : List Int} (h : IsTab L) {i j : Nat} (hi : i < L.length) (hj : j < L.length) (e : L.getD i 0 = L.getD j 0) : i = j := by
  have h1 : L.getD i 0 = L[i] := by simp [hi]
  have h2 : L.getD j 0 = L[j] := by simp [hj]
  rw [h1, h2] at e
  exact (List.getElem_inj h.2.2.2.2).1 e

theorem comesB_total : ∀ (l m : List Int), l.length = m.length → comesB l m = false → comesB m l = false → l = m
  | [], [], _, _, _ => rfl
  | [], _ :: _, h, _, _ => by simp at h
  | _ :: _, [], h, _, _ => by simp at h
  | a :: l, b :: m, h, h1, h2 => by
    simp only [comesB] at h1 h2
    by_cases e : a = b
    · subst e
      rw [if_pos rfl] at h1 h2
      rw [comesB_total l m (by simpa using h) h1 h2]
    · rw [if_neg e] at h1
      rw [if_neg (Ne.symm e)] at h2
      simp only [decide_eq_false_iff_not] at h1 h2
      omega
theorem comesB_trans : ∀ (l m r : List Int), comesB l m = true → comesB m r = true → comesB l r = true
  | [], _, _, h, _ => by simp [comesB] at h
  | _ :: _, [], _, h, _ => by simp [comesB] at h
  | _ :: _, _ :: _, [], _, h => by simp [comesB] at h
  | a :: l, b :: m, c :: r, h1, h2 => by
    simp only [comesB] at h1 h2 ⊢
    by_cases e1 : a = b
    · subst e1
      rw [if_pos rfl] at h1
      by_cases e2 : a = c
      · subst e2
        rw [if_pos rfl] at h2 ⊢
        exact comesB_trans l m r h1 h2
      · rw [if_neg e2] at h2 ⊢
        exact h2
    · rw [if_neg e1] at h1
      simp only [decide_eq_true_eq] at h1
      by_cases e2 : b = c
      · subst e2
        rw [if_neg e1]
        exact decide_eq_true h1
      · rw [if_neg e2] at h2
        simp only [decide_eq_true_eq] at h2
        rw [if_neg (by omega)]
        exact decide_eq_true (by omega)

/-- The lesser one of two: the second one, if it comes before. -/
def minB (b x : List Int) : List Int := if comesB x b then x else b
theorem minB_or (b x : List Int) : minB b x = b ∨ minB b x = x := by
  unfold minB; split
  · exact .inr rfl
  · exact .inl rfl
/-- b is one of some lists, and none of them comes before it. -/
def LeastOf (C : List (List Int)) (b : List Int) : Prop := b ∈ C ∧ ∀ c ∈ C, comesB c b = false
theorem least_snoc {C : List (List Int)} {b x : List Int} (h : LeastOf C b) : LeastOf (C ++ [x]) (minB b x) := by
  unfold minB
  refine ⟨?_, fun c hc => ?_⟩
  · split
    · simp
    · exact List.mem_append_left _ h.1
  · rcases List.mem_append.1 hc with hc | hc
    · have h1 := h.2 c hc
      split
      · rename_i hx
        cases hcx : comesB c x with
        | false => rfl
        | true => rw [comesB_trans _ _ _ hcx hx] at h1; cases h1
      · exact h1
    · rw [List.mem_singleton] at hc
      subst hc
      split
      · exact comesB_self _
      · rename_i hx; simpa using hx

/-- A table told from a place on. -/
def turnT (L : List Int) (by_ : Nat) : List Int := L.drop by_ ++ L.take by_
theorem turnT_len (L : List Int) (k : Nat) : (turnT L k).length = L.length := by simp [turnT]; omega
theorem turnT_zero (L : List Int) : turnT L 0 = L := by simp [turnT]
/-- All turned and mirrored tables of the first k. -/
def allT (L : List Int) : Nat → List (List Int)
  | 0 => [L]
  | k + 1 => allT L k ++ [turnT L k] ++ [(turnT L k).reverse]
def bestT (L : List Int) : Nat → List Int
  | 0 => L
  | k + 1 => minB (minB (bestT L k) (turnT L k)) (turnT L k).reverse
theorem bestT_least (L : List Int) : ∀ k, LeastOf (allT L k) (bestT L k)
  | 0 => ⟨by simp [allT, bestT], fun c hc => by simp [allT] at hc; subst hc; exact comesB_self _⟩
  | k + 1 => least_snoc (least_snoc (bestT_least L k))
theorem allT_mem (L : List Int) (x : List Int) : ∀ k, x ∈ allT L k ↔ x = L ∨ ∃ i < k, x = turnT L i ∨ x = (turnT L i).reverse
  | 0 => by simp [allT]
  | k + 1 => by
    simp only [allT, List.mem_append, List.mem_singleton, allT_mem L x k]
    constructor
    · rintro ((( h | ⟨i, hi, h⟩) | h) | h)
      · exact .inl h
      · exact .inr ⟨i, by omega, h⟩
      · exact .inr ⟨k, by omega, .inl h⟩
      · exact .inr ⟨k, by omega, .inr h⟩
    · rintro (h | ⟨i, hi, h⟩)
      · exact .inl (.inl (.inl h))
      · by_cases hik : i = k
        · subst hik
          rcases h with h | h
          · exact .inl (.inr h)
          · exact .inr h
        · exact .inl (.inl (.inr ⟨i, by omega, h⟩))
theorem bestT_len (L : List Int) (k : Nat) : (bestT L k).length = L.length := by
  rcases (allT_mem L _ k).1 (bestT_least L k).1 with h | ⟨i, _, h | h⟩ <;> rw [h]
  · exact turnT_len L i
  · rw [List.length_reverse, turnT_len]

theorem turnT_head (L : List Int) {k : Nat} (hk : k < L.length) : ∃ t, turnT L k = L.getD k 0 :: t := by
  refine ⟨L.drop (k + 1) ++ L.take k, ?_⟩
  unfold turnT
  rw [List.drop_eq_getElem_cons hk, show L.getD k 0 = L[k] by simp [hk]]
  rfl
theorem turnT_rev {L : List Int} {k : Nat} (hk : k < L.length) : (turnT L (k + 1)).reverse = turnT L.reverse (L.length - 1 - k) := by
  unfold turnT
  rw [List.reverse_append, List.drop_reverse, List.take_reverse]
  congr 2 <;> congr 1 <;> omega
theorem turnT_all (L : List Int) : turnT L L.length = L := by simp [turnT]

/-- What the code takes: the lesser one of both that begin with the guest at a place. -/
def firstT (L : List Int) (k : Nat) : List Int := minB (turnT L k) (turnT L.reverse (L.length - 1 - k))
theorem first_best {L : List Int} (h : IsTab L) {k : Nat} (hk : k < L.length) (h0 : L.getD k 0 = 0) : firstT L k = bestT L L.length := by
  have hlen := h.1
  have hone : turnT L k ∈ allT L L.length := (allT_mem L _ _).2 (.inr ⟨k, hk, .inl rfl⟩)
  have hoth : turnT L.reverse (L.length - 1 - k) ∈ allT L L.length := by
    rw [← turnT_rev hk]
    by_cases hk1 : k + 1 < L.length
    · exact (allT_mem L _ _).2 (.inr ⟨k + 1, hk1, .inr rfl⟩)
    · have e : k + 1 = L.length := by omega
      rw [e, turnT_all]
      exact (allT_mem L _ _).2 (.inr ⟨0, by omega, .inr (by rw [turnT_zero])⟩)
  obtain ⟨hm, hl⟩ := bestT_least L L.length
  have hpos : ∀ i, i < L.length → L.getD i 0 ≠ 0 → 0 < L.getD i 0 := fun i hi hne => by
    have := (h.2.2.2.1 _ (show L.getD i 0 ∈ L by simp [hi])).1
    omega
  obtain ⟨t1, ht1⟩ := turnT_head L hk
  rw [h0] at ht1
  have hcase : bestT L L.length = turnT L k ∨ bestT L L.length = turnT L.reverse (L.length - 1 - k) := by
    have key : ∀ i, i < L.length → bestT L L.length = turnT L i → i = k := by
      intro i hi hb
      refine Decidable.byContradiction fun hne => ?_
      have hni : L.getD i 0 ≠ 0 := fun e => hne (tab_inj h hi hk (e.trans h0.symm))
      obtain ⟨t2, ht2⟩ := turnT_head L hi
      have h1 := hl _ hone
      rw [hb, ht1, ht2] at h1
      have := hpos i hi hni
      simp only [comesB] at h1
      rw [if_neg (by omega)] at h1
      simp only [decide_eq_false_iff_not] at h1
      omega
    have key2 : ∀ i, i < L.length → bestT L L.length = turnT L.reverse (L.length - 1 - i) → i = k := by
      intro i hi hb
      refine Decidable.byContradiction fun hne => ?_
      have hni : L.getD i 0 ≠ 0 := fun e => hne (tab_inj h hi hk (e.trans h0.symm))
      obtain ⟨t2, ht2⟩ := turnT_head L.reverse (k := L.length - 1 - i) (by rw [List.length_reverse]; omega)
      have hg : L.reverse.getD (L.length - 1 - i) 0 = L.getD i 0 := by
        have e1 : L.length - 1 - (L.length - 1 - i) = i := by omega
        have e2 : L.length - 1 - i < L.length := by omega
        simp [List.getD, e1, hi, List.getElem?_reverse e2]
      have h1 := hl _ hone
      rw [hb, ht1, ht2, hg] at h1
      have := hpos i hi hni
      simp only [comesB] at h1
      rw [if_neg (by omega)] at h1
      simp only [decide_eq_false_iff_not] at h1
      omega
    rcases (allT_mem L _ _).1 hm with hb | ⟨i, hi, hb | hb⟩
    · have := key 0 (by omega) (by rw [turnT_zero]; exact hb)
      subst this
      left; rw [turnT_zero]; exact hb
    · have := key i hi hb
      subst this
      exact .inl hb
    · right
      by_cases hi0 : i = 0
      · subst hi0
        have e : (turnT L 0).reverse = turnT L.reverse (L.length - 1 - (L.length - 1)) := by
          rw [← turnT_rev (by omega), show L.length - 1 + 1 = L.length by omega, turnT_all, turnT_zero]
        rw [e] at hb
        have := key2 (L.length - 1) (by omega) hb
        subst this
        exact hb
      · obtain ⟨j, rfl⟩ : ∃ j, i = j + 1 := ⟨i - 1, by omega⟩
        rw [turnT_rev (by omega)] at hb
        have := key2 j (by omega) hb
        subst this
        exact hb
  have h1 := hl _ hone
  have h2 := hl _ hoth
  unfold firstT minB
  rcases hcase with e | e
  · rw [e] at h2 ⊢
    rw [if_neg (by rw [h2]; decide)]
  · rw [e] at h1 ⊢
    split
    · rfl
    · rename_i hx
      exact comesB_total _ _ (by rw [turnT_len, turnT_len, List.length_reverse]) h1 (by simpa using hx)
end Go.Am
