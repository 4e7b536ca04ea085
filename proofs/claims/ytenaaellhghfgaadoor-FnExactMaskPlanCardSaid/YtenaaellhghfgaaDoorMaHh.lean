/- Hats: texts of colours, all hats in their order, views, sums, plans. No program. Hats: how many guests are right for all hats, the least and the most of them. No program. -/
import Derived.Test.YtenaaellhghfgaaDoorAmU
namespace Go.Am

/-- The digit of a colour, and the colour of a digit. -/
def hg (n : Nat) : UInt8 := UInt8.ofNat (48 + n)
def hv (b : UInt8) : Nat := b.toNat - 48
theorem hv_hg : ∀ n < 10, hv (hg n) = n := by decide +kernel
theorem hg_nat : ∀ n < 10, (hg n).toNat = 48 + n := by decide +kernel
theorem hg_wrap : ∀ n < 10, IntKind.u8.wrap (48 + (n : Nat)) = ((hg n).toNat : Int) := by decide +kernel
theorem hg_hv {b : UInt8} (h1 : 48 ≤ b.toNat) (h2 : b.toNat < 58) : hg (hv b) = b := by
  apply UInt8.toNat_inj.1
  rw [hg_nat _ (by unfold hv; omega)]
  unfold hv
  omega

/-- A text of colours alone. -/
def IsCol (c : Nat) (t : List UInt8) : Prop := ∀ b ∈ t, 48 ≤ b.toNat ∧ b.toNat < 48 + c
instance (c : Nat) (t : List UInt8) : Decidable (IsCol c t) := inferInstanceAs (Decidable (∀ b ∈ t, _))
theorem col_at {c : Nat} {t : List UInt8} (h : IsCol c t) {k : Nat} (hk : k < t.length) : 48 ≤ (t.getD k 0).toNat ∧ (t.getD k 0).toNat < 48 + c := h _ (getD_memL hk)
theorem col_hv {c : Nat} {t : List UInt8} (h : IsCol c t) {k : Nat} (hk : k < t.length) : hv (t.getD k 0) < c ∧ (t.getD k 0).toNat = 48 + hv (t.getD k 0) := by
  have := col_at h hk
  unfold hv
  omega

/-- So many digits of a number in base c. -/
def dgs (c : Nat) : Nat → Nat → List UInt8
  | 0, _ => []
  | m + 1, n => hg (n / c ^ m % c) :: dgs c m n
theorem dgs_len (c : Nat) : ∀ m n, (dgs c m n).length = m
  | 0, _ => rfl
  | m + 1, n => by rw [dgs, List.length_cons, dgs_len c m n]
theorem dgs_col {c : Nat} (h0 : 0 < c) (h : c ≤ 3) : ∀ m n, IsCol c (dgs c m n)
  | 0, _ => by intro b hb; simp [dgs] at hb
  | m + 1, n => by
    intro b hb
    rcases List.mem_cons.1 hb with rfl | hb
    · have := Nat.mod_lt (n / c ^ m) h0
      rw [hg_nat _ (by omega)]
      omega
    · exact dgs_col h0 h m n b hb
/-- All hats of so many guests, in order. -/
def allH (c m : Nat) : List (List UInt8) := (List.range (c ^ m)).map (dgs c m)
theorem allH_len (c m : Nat) : (allH c m).length = c ^ m := by simp [allH]
/-- One colour more behind each. -/
def moreH (c : Nat) (h : List UInt8) : List (List UInt8) := (List.range c).map fun k => h ++ [hg k]
theorem allH_more : ∀ c < 4, ∀ m < 4, (allH c m).flatMap (moreH c) = allH c (m + 1) := by decide +kernel
theorem allH_get {c m n : Nat} (h : n < c ^ m) : (allH c m).getD n [] = dgs c m n := by
  unfold allH
  rw [List.getD_eq_getElem?_getD, List.getElem?_map, List.getElem?_range h]
  rfl
theorem allH_mem {c m : Nat} {t : List UInt8} (h0 : 0 < c) (hc : c ≤ 3) (h : t ∈ allH c m) : t.length = m ∧ IsCol c t := by
  unfold allH at h
  rw [List.mem_map] at h
  obtain ⟨n, _, rfl⟩ := h
  exact ⟨dgs_len c m n, dgs_col h0 hc m n⟩
/-- The number that a text tells. -/
def nmb (c : Nat) (t : List UInt8) : Nat := t.foldl (fun n b => n * c + hv b) 0
def allC (c : Nat) : Nat → List (List UInt8)
  | 0 => [[]]
  | m + 1 => (List.range c).flatMap fun k => (allC c m).map (hg k :: ·)
theorem allC_all : ∀ c < 4, ∀ m < 5, allC c m = allH c m := by decide +kernel
theorem mem_allC {c : Nat} (hc : c ≤ 3) : ∀ {t : List UInt8}, IsCol c t → t ∈ allC c t.length
  | [], _ => by simp [allC]
  | b :: t, h => by
    have hb := h b (List.mem_cons_self ..)
    have hm := mem_allC hc (t := t) fun x hx => h x (List.mem_cons_of_mem _ hx)
    rw [List.length_cons, allC, List.mem_flatMap]
    exact ⟨hv b, List.mem_range.2 (by unfold hv; omega), List.mem_map.2 ⟨t, hm, by rw [hg_hv (by omega) (by omega)]⟩⟩
theorem mem_allH {c : Nat} {t : List UInt8} (hc : c ≤ 3) (hl : t.length ≤ 4) (h : IsCol c t) : t ∈ allH c t.length := by
  rw [← allC_all c (by omega) t.length (by omega)]
  exact mem_allC hc h
/-- What is decided of all hats of at most four guests holds of every one. -/
theorem hats_all {p : Nat → List UInt8 → Bool} (h : ([2, 3] : List Nat).all (fun c => (List.range 5).all fun m => (allH c m).all (p c)) = true) {c : Nat} (h2 : 2 ≤ c) (h3 : c ≤ 3) {t : List UInt8} (hl : t.length ≤ 4) (ht : IsCol c t) : p c t = true := by
  have h4 := List.all_eq_true.1 h c (by simp; omega)
  have h5 := List.all_eq_true.1 h4 t.length (by simp; omega)
  exact List.all_eq_true.1 h5 t (mem_allH h3 hl ht)

/-- What a guest sees; its view, told so far. -/
def seenH (t : List UInt8) (i : Nat) : List UInt8 := t.take i ++ t.drop (i + 1)
def vwK (c : Nat) (t : List UInt8) (i k : Nat) : Nat := (List.range k).foldl (fun n j => if j = i then n else n * c + hv (t.getD j 0)) 0
def vw (c : Nat) (t : List UInt8) (i : Nat) : Nat := vwK c t i t.length
theorem vwK_succ (c : Nat) (t : List UInt8) (i k : Nat) : vwK c t i (k + 1) = if k = i then vwK c t i k else vwK c t i k * c + hv (t.getD k 0) := by
  unfold vwK
  rw [List.range_succ, List.foldl_append]
  rfl
theorem vwK_le {c : Nat} (h2 : 2 ≤ c) (h3 : c ≤ 3) {t : List UInt8} (hl : t.length ≤ 4) (ht : IsCol c t) {i k : Nat} (hi : i < t.length) (hk : k ≤ t.length) : vwK c t i k < 100 := by
  have := hats_all (p := fun c t => (List.range t.length).all fun i => (List.range (t.length + 1)).all fun k => decide (vwK c t i k < 100)) (by decide +kernel) h2 h3 hl ht
  have := List.all_eq_true.1 (List.all_eq_true.1 this i (by simpa using hi)) k (by simp; omega)
  simpa using this
theorem vw_lt {c : Nat} (h2 : 2 ≤ c) (h3 : c ≤ 3) {t : List UInt8} (hl : t.length ≤ 4) (ht : IsCol c t) {i : Nat} (hi : i < t.length) : vw c t i < c ^ (t.length - 1) := by
  have := hats_all (p := fun c t => (List.range t.length).all fun i => decide (vw c t i < c ^ (t.length - 1))) (by decide +kernel) h2 h3 hl ht
  simpa using List.all_eq_true.1 this i (by simpa using hi)
theorem seen_at {c : Nat} (h2 : 2 ≤ c) (h3 : c ≤ 3) {t : List UInt8} (hl : t.length ≤ 4) (ht : IsCol c t) {i : Nat} (hi : i < t.length) : dgs c (t.length - 1) (vw c t i) = seenH t i := by
  have := hats_all (p := fun c t => (List.range t.length).all fun i => decide (dgs c (t.length - 1) (vw c t i) = seenH t i)) (by decide +kernel) h2 h3 hl ht
  simpa using List.all_eq_true.1 this i (by simpa using hi)
theorem nmb_seen {c : Nat} (h2 : 2 ≤ c) (h3 : c ≤ 3) {t : List UInt8} (hl : t.length ≤ 4) (ht : IsCol c t) {i : Nat} (hi : i < t.length) : nmb c (seenH t i) = vw c t i := by
  have := hats_all (p := fun c t => (List.range t.length).all fun i => decide (nmb c (seenH t i) = vw c t i)) (by decide +kernel) h2 h3 hl ht
  simpa using List.all_eq_true.1 this i (by simpa using hi)
theorem seen_len {t : List UInt8} {i : Nat} (hi : i < t.length) : (seenH t i).length = t.length - 1 := by
  unfold seenH
  rw [List.length_append, List.length_take, List.length_drop]
  omega
theorem seen_col {c : Nat} {t : List UInt8} (h : IsCol c t) (i : Nat) : IsCol c (seenH t i) := by
  intro b hb
  rcases List.mem_append.1 hb with hb | hb
  · exact h b (List.mem_of_mem_take hb)
  · exact h b (List.mem_of_mem_drop hb)
theorem nmb_snoc (c : Nat) (t : List UInt8) (b : UInt8) : nmb c (t ++ [b]) = nmb c t * c + hv b := by
  unfold nmb
  rw [List.foldl_append]
  rfl
theorem nmb_le {c : Nat} (h2 : 2 ≤ c) (h3 : c ≤ 3) {t : List UInt8} (hl : t.length ≤ 4) (ht : IsCol c t) : nmb c t < 100 := by
  have := hats_all (p := fun c t => decide (nmb c t < 100)) (by decide +kernel) h2 h3 hl ht
  simpa using this

/-- The sum of colours. -/
def hsum (t : List UInt8) : Nat := (t.map hv).sum
theorem hsum_snoc (t : List UInt8) (b : UInt8) : hsum (t ++ [b]) = hsum t + hv b := by simp [hsum]
theorem hsum_le {c : Nat} {t : List UInt8} (h3 : c ≤ 3) (h : IsCol c t) : hsum t ≤ 2 * t.length := by
  induction t with
  | nil => simp [hsum]
  | cons b t ih =>
    have hb := h b (List.mem_cons_self ..)
    have := ih fun x hx => h x (List.mem_cons_of_mem _ hx)
    have e : hsum (b :: t) = hv b + hsum t := by simp [hsum]
    rw [e, List.length_cons]
    unfold hv
    omega
theorem col_take {c : Nat} {t : List UInt8} (h : IsCol c t) (k : Nat) : IsCol c (t.take k) := fun b hb => h b (List.mem_of_mem_take hb)
theorem col_drop {c : Nat} {t : List UInt8} (h : IsCol c t) (k : Nat) : IsCol c (t.drop k) := fun b hb => h b (List.mem_of_mem_drop hb)
theorem col_append {c : Nat} {t u : List UInt8} (h : IsCol c t) (k : IsCol c u) : IsCol c (t ++ u) := fun b hb => (List.mem_append.1 hb).elim (h b) (k b)
theorem col_one {c n : Nat} (h : n < c) (hc : c ≤ 3) : IsCol c [hg n] := by
  intro b hb
  rw [List.mem_singleton.1 hb, hg_nat _ (by omega)]
  omega

/-- The places at which two texts are the same. -/
def rgt (A B : List UInt8) (k : Nat) : List Int := ((List.range k).filter fun i => A.getD i 0 == B.getD i 0).map fun (i : Nat) => (i : Int)
theorem rgt_succ (A B : List UInt8) (k : Nat) : rgt A B (k + 1) = rgt A B k ++ if A.getD k 0 = B.getD k 0 then [(k : Int)] else [] := by
  unfold rgt
  rw [List.range_succ, List.filter_append, List.map_append]
  congr 1
  by_cases h : A.getD k 0 = B.getD k 0
  · rw [if_pos h, List.filter_cons_of_pos (by rw [h]; exact beq_self_eq_true _)]
    rfl
  · rw [if_neg h, List.filter_cons_of_neg (by intro e; exact h (eq_of_beq e))]
    rfl
theorem rgt_le (A B : List UInt8) (k : Nat) : (rgt A B k).length ≤ k := by
  unfold rgt
  rw [List.length_map]
  exact Nat.le_trans (List.length_filter_le ..) (by simp)

/-- A plan for hats of c colours. -/
def IsPln (c : Int) (G : List (List UInt8)) : Prop := (2 ≤ G.length ∧ G.length ≤ 4) ∧ (2 ≤ c ∧ c ≤ 3) ∧ ∀ r ∈ G, r.length = c.toNat ^ (G.length - 1) ∧ IsCol c.toNat r
instance (c : Int) (G : List (List UInt8)) : Decidable (IsPln c G) := inferInstanceAs (Decidable (_ ∧ _ ∧ ∀ r ∈ G, _))
theorem pow_le : ∀ c < 4, ∀ m < 5, c ^ m ≤ 81 := by decide +kernel
theorem pow_pos' : ∀ c < 4, 2 ≤ c → ∀ m < 5, 1 ≤ c ^ m := by decide +kernel
/-- What all guess, and how many are right. -/
def gsH (c : Nat) (G : List (List UInt8)) (t : List UInt8) (k : Nat) : List UInt8 := (List.range k).map fun i => (G.getD i []).getD (vw c t i) 0
theorem gsH_len (c : Nat) (G : List (List UInt8)) (t : List UInt8) (k : Nat) : (gsH c G t k).length = k := by simp [gsH]
theorem gsH_succ (c : Nat) (G : List (List UInt8)) (t : List UInt8) (k : Nat) : gsH c G t (k + 1) = gsH c G t k ++ [(G.getD k []).getD (vw c t k) 0] := by simp [gsH, List.range_succ]
theorem pln_at {c : Nat} {G : List (List UInt8)} (h : IsPln c G) {t : List UInt8} (hl : t.length = G.length) (ht : IsCol c t) {i : Nat} (hi : i < G.length) :
    48 ≤ ((G.getD i []).getD (vw c t i) 0).toNat ∧ ((G.getD i []).getD (vw c t i) 0).toNat < 48 + c ∧ vw c t i < (G.getD i []).length := by
  obtain ⟨⟨h1, h2⟩, ⟨h3, h4⟩, h5⟩ := h
  obtain ⟨h6, h7⟩ := h5 _ (getD_memL (d := []) hi)
  rw [Int.toNat_natCast] at h6 h7
  have h8 := vw_lt (c := c) (by omega) (by omega) (by omega) ht (i := i) (by omega)
  rw [hl, ← h6] at h8
  obtain ⟨h9, h10⟩ := col_at h7 h8
  exact ⟨h9, h10, h8⟩
theorem gsH_col {c : Nat} {G : List (List UInt8)} (h : IsPln c G) {t : List UInt8} (hl : t.length = G.length) (ht : IsCol c t) {k : Nat} (hk : k ≤ G.length) : IsCol c (gsH c G t k) := by
  intro b hb
  unfold gsH at hb
  rw [List.mem_map] at hb
  obtain ⟨i, hi, rfl⟩ := hb
  have := pln_at h hl ht (i := i) (by have := List.mem_range.1 hi; omega)
  exact ⟨this.1, this.2.1⟩
end Go.Am

namespace Go.Am

/-- How many are right for the n-th hats. -/
def rtN (c : Nat) (G : List (List UInt8)) (n : Nat) : Nat := (rgt (gsH c G (dgs c G.length n) G.length) (dgs c G.length n) G.length).length
theorem rtN_le (c : Nat) (G : List (List UInt8)) (n : Nat) : rtN c G n ≤ G.length := rgt_le ..
def rls (c : Nat) (G : List (List UInt8)) (n : Nat) : List Int := (List.range n).map fun j => (rtN c G j : Int)
theorem rls_len (c : Nat) (G : List (List UInt8)) (n : Nat) : (rls c G n).length = n := by simp [rls]
theorem rls_succ (c : Nat) (G : List (List UInt8)) (n : Nat) : rls c G (n + 1) = rls c G n ++ [(rtN c G n : Int)] := by simp [rls, List.range_succ]
theorem rls_get (c : Nat) (G : List (List UInt8)) {n j : Nat} (h : j < n) : (rls c G n).getD j 0 = (rtN c G j : Int) := by simp [rls, h]
/-- For how many of the first n hats so many are right. -/
def cntR (c : Nat) (G : List (List UInt8)) (n r : Nat) : Nat := ((List.range n).filter fun j => rtN c G j == r).length
def cntL (c : Nat) (G : List (List UInt8)) (n : Nat) : List Int := (List.range (G.length + 1)).map fun r => (cntR c G n r : Int)
theorem cntL_len (c : Nat) (G : List (List UInt8)) (n : Nat) : (cntL c G n).length = G.length + 1 := by simp [cntL]
theorem cntL_get (c : Nat) (G : List (List UInt8)) {n r : Nat} (h : r < G.length + 1) : (cntL c G n).getD r 0 = (cntR c G n r : Int) := by simp [cntL, h]
theorem cntR_le (c : Nat) (G : List (List UInt8)) (n r : Nat) : cntR c G n r ≤ n := by
  unfold cntR
  exact Nat.le_trans (List.length_filter_le ..) (by simp)
theorem cntR_succ (c : Nat) (G : List (List UInt8)) (n r : Nat) : cntR c G (n + 1) r = cntR c G n r + if rtN c G n = r then 1 else 0 := by
  unfold cntR
  rw [List.range_succ, List.filter_append, List.length_append]
  congr 1
  by_cases h : rtN c G n = r
  · rw [if_pos h, List.filter_cons_of_pos (by rw [h]; exact beq_self_eq_true _)]
    rfl
  · rw [if_neg h, List.filter_cons_of_neg (by intro e; exact h (eq_of_beq e))]
    rfl
theorem cntR_pos {c : Nat} {G : List (List UInt8)} {n r : Nat} : 0 < cntR c G n r ↔ ∃ j, j < n ∧ rtN c G j = r := by
  unfold cntR
  rw [List.length_pos_iff_exists_mem]
  simp only [List.mem_filter, List.mem_range, beq_iff_eq]
theorem cntL_set (c : Nat) (G : List (List UInt8)) (n : Nat) : (cntL c G n).set (rtN c G n) ((cntR c G n (rtN c G n) : Int) + 1) = cntL c G (n + 1) := by
  apply List.ext_getElem?
  intro i
  rw [List.getElem?_set]
  have hle := rtN_le c G n
  by_cases hi : i < G.length + 1
  · by_cases e : rtN c G n = i
    · subst e
      rw [if_pos rfl, if_pos (by rw [cntL_len]; omega)]
      simp [cntL, hi, cntR_succ]
    · rw [if_neg e]
      simp [cntL, hi, cntR_succ, e]
  · rw [if_neg (by omega), List.getElem?_eq_none (by rw [cntL_len]; omega), List.getElem?_eq_none (by rw [cntL_len]; omega)]
theorem cntL_zero (c : Nat) (G : List (List UInt8)) : cntL c G 0 = List.replicate (G.length + 1) 0 := by
  unfold cntL cntR
  apply List.ext_getElem?
  intro i
  by_cases hi : i < G.length + 1
  · simp [hi]
  · simp [hi]

/-- The first hats for which the fewest are right. -/
def IsWst (c : Nat) (G : List (List UInt8)) (k : Nat) : Prop := k < c ^ G.length ∧ (∀ j, j < k → rtN c G k < rtN c G j) ∧ ∀ j, j < c ^ G.length → rtN c G k ≤ rtN c G j
def IsMst (c : Nat) (G : List (List UInt8)) (m : Nat) : Prop := (∃ j, j < c ^ G.length ∧ rtN c G j = m) ∧ ∀ j, j < c ^ G.length → rtN c G j ≤ m
theorem first_min (f : Nat → Nat) : ∀ n, 0 < n → ∃ k, k < n ∧ (∀ j, j < k → f k < f j) ∧ ∀ j, j < n → f k ≤ f j
  | 1, _ => ⟨0, by omega, by omega, fun j hj => by have e : j = 0 := (by omega); rw [e]; exact Nat.le_refl _⟩
  | n + 2, _ => by
    obtain ⟨k, h1, h2, h3⟩ := first_min f (n + 1) (by omega)
    by_cases h : f (n + 1) < f k
    · refine ⟨n + 1, by omega, fun j hj => Nat.lt_of_lt_of_le h (h3 j hj), fun j hj => ?_⟩
      by_cases e : j = n + 1
      · subst e; exact Nat.le_refl _
      · exact Nat.le_of_lt (Nat.lt_of_lt_of_le h (h3 j (by omega)))
    · refine ⟨k, by omega, h2, fun j hj => ?_⟩
      by_cases e : j = n + 1
      · subst e; omega
      · exact h3 j (by omega)
theorem some_max (f : Nat → Nat) : ∀ n, 0 < n → ∃ m, (∃ j, j < n ∧ f j = m) ∧ ∀ j, j < n → f j ≤ m
  | 1, _ => ⟨f 0, ⟨0, by omega, rfl⟩, fun j hj => by have e : j = 0 := (by omega); rw [e]; exact Nat.le_refl _⟩
  | n + 2, _ => by
    obtain ⟨m, ⟨j, h1, h2⟩, h3⟩ := some_max f (n + 1) (by omega)
    by_cases h : m < f (n + 1)
    · refine ⟨f (n + 1), ⟨n + 1, by omega, rfl⟩, fun i hi => ?_⟩
      by_cases e : i = n + 1
      · subst e; exact Nat.le_refl _
      · have := h3 i (by omega); omega
    · refine ⟨m, ⟨j, by omega, h2⟩, fun i hi => ?_⟩
      by_cases e : i = n + 1
      · subst e; omega
      · exact h3 i (by omega)
theorem has_wst (c : Nat) (G : List (List UInt8)) (h : 0 < c ^ G.length) : ∃ k, IsWst c G k := first_min _ _ h
theorem has_mst (c : Nat) (G : List (List UInt8)) (h : 0 < c ^ G.length) : ∃ k, IsMst c G k := some_max _ _ h

/-- The least and the greatest of some numbers, one after the other. -/
def mnF (a b : Int) : Int := if b < a then b else a
def mxF (a b : Int) : Int := if b > a then b else a
theorem mnF_fold (L : List Int) : ∀ a, (L.foldl mnF a = a ∨ L.foldl mnF a ∈ L) ∧ L.foldl mnF a ≤ a ∧ ∀ x ∈ L, L.foldl mnF a ≤ x := by
  induction L with
  | nil => intro a; simp
  | cons b L ih =>
    intro a
    obtain ⟨h1, h2, h3⟩ := ih (mnF a b)
    rw [List.foldl_cons]
    have hm : mnF a b ≤ a ∧ mnF a b ≤ b ∧ (mnF a b = a ∨ mnF a b = b) := by unfold mnF; split <;> omega
    refine ⟨?_, by omega, fun x hx => ?_⟩
    · rcases h1 with h1 | h1
      · rw [h1]
        rcases hm.2.2 with e | e
        · exact .inl e
        · rw [e]; exact .inr (List.mem_cons_self ..)
      · exact .inr (List.mem_cons_of_mem _ h1)
    · rcases List.mem_cons.1 hx with rfl | hx
      · omega
      · exact h3 x hx
theorem mxF_fold (L : List Int) : ∀ a, (L.foldl mxF a = a ∨ L.foldl mxF a ∈ L) ∧ a ≤ L.foldl mxF a ∧ ∀ x ∈ L, x ≤ L.foldl mxF a := by
  induction L with
  | nil => intro a; simp
  | cons b L ih =>
    intro a
    obtain ⟨h1, h2, h3⟩ := ih (mxF a b)
    rw [List.foldl_cons]
    have hm : a ≤ mxF a b ∧ b ≤ mxF a b ∧ (mxF a b = a ∨ mxF a b = b) := by unfold mxF; split <;> omega
    refine ⟨?_, by omega, fun x hx => ?_⟩
    · rcases h1 with h1 | h1
      · rw [h1]
        rcases hm.2.2 with e | e
        · exact .inl e
        · rw [e]; exact .inr (List.mem_cons_self ..)
      · exact .inr (List.mem_cons_of_mem _ h1)
    · rcases List.mem_cons.1 hx with rfl | hx
      · omega
      · exact h3 x hx
theorem fold_snoc (f : Int → Int → Int) (L : List Int) (a : Int) (k : Nat) (h : k < L.length) : (L.take (k + 1)).foldl f a = f ((L.take k).foldl f a) (L.getD k 0) := by
  rw [take_snoc L k 0 h, List.foldl_append]
  rfl
theorem mem_rls {c : Nat} {G : List (List UInt8)} {n : Nat} {x : Int} : x ∈ rls c G n ↔ ∃ j, j < n ∧ x = (rtN c G j : Int) := by
  unfold rls
  simp only [List.mem_map, List.mem_range]
  exact ⟨fun ⟨j, h, e⟩ => ⟨j, h, e.symm⟩, fun ⟨j, h, e⟩ => ⟨j, h, e.symm⟩⟩
theorem mn_rls {c : Nat} {G : List (List UInt8)} {k : Nat} (h : IsWst c G k) : (rls c G (c ^ G.length)).foldl mnF ((rls c G (c ^ G.length)).getD 0 0) = (rtN c G k : Int) := by
  obtain ⟨h1, h2, h3⟩ := mnF_fold (rls c G (c ^ G.length)) ((rls c G (c ^ G.length)).getD 0 0)
  have h0 := rls_get c G (n := c ^ G.length) (j := 0) (by have := h.1; omega)
  have k1 := h3 _ (mem_rls.2 ⟨k, h.1, rfl⟩)
  have k2 : (rtN c G k : Int) ≤ (rls c G (c ^ G.length)).foldl mnF ((rls c G (c ^ G.length)).getD 0 0) := by
    rcases h1 with e | e
    · rw [e, h0]
      have := h.2.2 0 (by have := h.1; omega)
      omega
    · obtain ⟨j, hj, e⟩ := mem_rls.1 e
      rw [e]
      have := h.2.2 j hj
      omega
  omega
theorem mx_rls {c : Nat} {G : List (List UInt8)} {m : Nat} (h : IsMst c G m) : (rls c G (c ^ G.length)).foldl mxF ((rls c G (c ^ G.length)).getD 0 0) = (m : Int) := by
  obtain ⟨h1, h2, h3⟩ := mxF_fold (rls c G (c ^ G.length)) ((rls c G (c ^ G.length)).getD 0 0)
  obtain ⟨⟨j, hj, hjm⟩, hm⟩ := h
  have h0 := rls_get c G (n := c ^ G.length) (j := 0) (by omega)
  have k1 := h3 _ (mem_rls.2 ⟨j, hj, rfl⟩)
  rw [hjm] at k1
  have k2 : (rls c G (c ^ G.length)).foldl mxF ((rls c G (c ^ G.length)).getD 0 0) ≤ (m : Int) := by
    rcases h1 with e | e
    · rw [e, h0]
      have := hm 0 (by omega)
      omega
    · obtain ⟨i, hi, e⟩ := mem_rls.1 e
      rw [e]
      have := hm i hi
      omega
  omega
end Go.Am
