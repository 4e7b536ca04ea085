/- Hats: texts of colours, all hats in their order, views, sums, plans. No program. -/
import Derived.Test.YtfoecdaggmagaaaDoorAmU
namespace Go.Am

/-- The digit of a colour, and the colour of a digit. -/
def hg (n : Nat) : UInt8 := UInt8.ofNat (48 + n)
def hv (b : UInt8) : Nat := b.toNat - 48
theorem hv_hg : ∀ n < 10, hv (hg n) = n := by decide +kernel
theorem hg_nat : ∀ n < 10, (hg n).toNat = 48 + n := by decide +kernel
theorem hg_wrap : ∀ n < 10, IntKind.u8.wrap (48 + (n : Nat)) = ((hg n).toNat : Int) := by decide +kernel
theorem hg_hv {b : UInt8} (h1 : 48 ≤ b.toNat) (h2 : b.toNat < 58) : hg (hv b) = b := by
  apply UInt8.toNat_inj.1
  rw [hg_nat _ (by unfold hv; omega)]
  unfold hv
  omega

/-- A text of colours alone. -/
def IsCol (c : Nat) (t : List UInt8) : Prop := ∀ b ∈ t, 48 ≤ b.toNat ∧ b.toNat < 48 + c
instance (c : Nat) (t : List UInt8) : Decidable (IsCol c t) := inferInstanceAs (Decidable (∀ b ∈ t, _))
theorem col_at {c : Nat} {t : List UInt8} (h : IsCol c t) {k : Nat} (hk : k < t.length) : 48 ≤ (t.getD k 0).toNat ∧ (t.getD k 0).toNat < 48 + c := h _ (getD_memL hk)
theorem col_hv {c : Nat} {t : List UInt8} (h : IsCol c t) {k : Nat} (hk : k < t.length) : hv (t.getD k 0) < c ∧ (t.getD k 0).toNat = 48 + hv (t.getD k 0) := by
  have := col_at h hk
  unfold hv
  omega

/-- So many digits of a number in base c. -/
def dgs (c : Nat) : Nat → Nat → List UInt8
  | 0, _ => []
  | m + 1, n => hg (n / c ^ m % c) :: dgs c m n
theorem dgs_len (c : Nat) : ∀ m n, (dgs c m n).length = m
  | 0, _ => rfl
  | m + 1, n => by rw [dgs, List.length_cons, dgs_len c m n]
theorem dgs_col {c : Nat} (h0 : 0 < c) (h : c ≤ 3) : ∀ m n, IsCol c (dgs c m n)
  | 0, _ => by intro b hb; simp [dgs] at hb
  | m + 1, n => by
    intro b hb
    rcases List.mem_cons.1 hb with rfl | hb
    · have := Nat.mod_lt (n / c ^ m) h0
      rw [hg_nat _ (by omega)]
      omega
    · exact dgs_col h0 h m n b hb
/-- All hats of so many guests, in order. -/
def allH (c m : Nat) : List (List UInt8) := (List.range (c ^ m)).map (dgs c m)
theorem allH_len (c m : Nat) : (allH c m).length = c ^ m := by simp [allH]
/-- One colour more behind each. -/
def moreH (c : Nat) (h : List UInt8) : List (List UInt8) := (List.range c).map fun k => h ++ [hg k]
theorem allH_more : ∀ c < 4, ∀ m < 4, (allH c m).flatMap (moreH c) = allH c (m + 1) := by decide +kernel
theorem allH_get {c m n : Nat} (h : n < c ^ m) : (allH c m).getD n [] = dgs c m n := by
  unfold allH
  rw [List.getD_eq_getElem?_getD, List.getElem?_map, List.getElem?_range h]
  rfl
theorem allH_mem {c m : Nat} {t : List UInt8} (h0 : 0 < c) (hc : c ≤ 3) (h : t ∈ allH c m) : t.length = m ∧ IsCol c t := by
  unfold allH at h
  rw [List.mem_map] at h
  obtain ⟨n, _, rfl⟩ := h
  exact ⟨dgs_len c m n, dgs_col h0 hc m n⟩
/-- The number that a text tells. -/
def nmb (c : Nat) (t : List UInt8) : Nat := t.foldl (fun n b => n * c + hv b) 0
def allC (c : Nat) : Nat → List (List UInt8)
  | 0 => [[]]
  | m + 1 => (List.range c).flatMap fun k => (allC c m).map (hg k :: ·)
theorem allC_all : ∀ c < 4, ∀ m < 5, allC c m = allH c m := by decide +kernel
theorem mem_allC {c : Nat} (hc : c ≤ 3) : ∀ {t : List UInt8}, IsCol c t → t ∈ allC c t.length
  | [], _ => by simp [allC]
  | b :: t, h => by
    have hb := h b (List.mem_cons_self ..)
    have hm := mem_allC hc (t := t) fun x hx => h x (List.mem_cons_of_mem _ hx)
    rw [List.length_cons, allC, List.mem_flatMap]
    exact ⟨hv b, List.mem_range.2 (by unfold hv; omega), List.mem_map.2 ⟨t, hm, by rw [hg_hv (by omega) (by omega)]⟩⟩
theorem mem_allH {c : Nat} {t : List UInt8} (hc : c ≤ 3) (hl : t.length ≤ 4) (h : IsCol c t) : t ∈ allH c t.length := by
  rw [← allC_all c (by omega) t.length (by omega)]
  exact mem_allC hc h
/-- What is decided of all hats of at most four guests holds of every one. -/
theorem hats_all {p : Nat → List UInt8 → Bool} (h : ([2, 3] : List Nat).all (fun c => (List.range 5).all fun m => (allH c m).all (p c)) = true) {c : Nat} (h2 : 2 ≤ c) (h3 : c ≤ 3) {t : List UInt8} (hl : t.length ≤ 4) (ht : IsCol c t) : p c t = true := by
  have h4 := List.all_eq_true.1 h c (by simp; omega)
  have h5 := List.all_eq_true.1 h4 t.length (by simp; omega)
  exact List.all_eq_true.1 h5 t (mem_allH h3 hl ht)

/-- What a guest sees; its view, told so far. -/
def seenH (t : List UInt8) (i : Nat) : List UInt8 := t.take i ++ t.drop (i + 1)
def vwK (c : Nat) (t : List UInt8) (i k : Nat) : Nat := (List.range k).foldl (fun n j => if j = i then n else n * c + hv (t.getD j 0)) 0
def vw (c : Nat) (t : List UInt8) (i : Nat) : Nat := vwK c t i t.length
theorem vwK_succ (c : Nat) (t : List UInt8) (i k : Nat) : vwK c t i (k + 1) = if k = i then vwK c t i k else vwK c t i k * c + hv (t.getD k 0) := by
  unfold vwK
  rw [List.range_succ, List.foldl_append]
  rfl
theorem vwK_le {c : Nat} (h2 : 2 ≤ c) (h3 : c ≤ 3) {t : List UInt8} (hl : t.length ≤ 4) (ht : IsCol c t) {i k : Nat} (hi : i < t.length) (hk : k ≤ t.length) : vwK c t i k < 100 := by
  have := hats_all (p := fun c t => (List.range t.length).all fun i => (List.range (t.length + 1)).all fun k => decide (vwK c t i k < 100)) (by decide +kernel) h2 h3 hl ht
  have := List.all_eq_true.1 (List.all_eq_true.1 this i (by simpa using hi)) k (by simp; omega)
  simpa using this
theorem vw_lt {c : Nat} (h2 : 2 ≤ c) (h3 : c ≤ 3) {t : List UInt8} (hl : t.length ≤ 4) (ht : IsCol c t) {i : Nat} (hi : i < t.length) : vw c t i < c ^ (t.length - 1) := by
  have := hats_all (p := fun c t => (List.range t.length).all fun i => decide (vw c t i < c ^ (t.length - 1))) (by decide +kernel) h2 h3 hl ht
  simpa using List.all_eq_true.1 this i (by simpa using hi)
theorem seen_at {c : Nat} (h2 : 2 ≤ c) (h3 : c ≤ 3) {t : List UInt8} (hl : t.length ≤ 4) (ht : IsCol c t) {i : Nat} (hi : i < t.length) : dgs c (t.length - 1) (vw c t i) = seenH t i := by
  have := hats_all (p := fun c t => (List.range t.length).all fun i => decide (dgs c (t.length - 1) (vw c t i) = seenH t i)) (by decide +kernel) h2 h3 hl ht
  simpa using List.all_eq_true.1 this i (by simpa using hi)
theorem nmb_seen {c : Nat} (h2 : 2 ≤ c) (h3 : c ≤ 3) {t : List UInt8} (hl : t.length ≤ 4) (ht : IsCol c t) {i : Nat} (hi : i < t.length) : nmb c (seenH t i) = vw c t i := by
  have := hats_all (p := fun c t => (List.range t.length).all fun i => decide (nmb c (seenH t i) = vw c t i)) (by decide +kernel) h2 h3 hl ht
  simpa using List.all_eq_true.1 this i (by simpa using hi)
theorem seen_len {t : List UInt8} {i : Nat} (hi : i < t.length) : (seenH t i).length = t.length - 1 := by
  unfold seenH
  rw [List.length_append, List.length_take, List.length_drop]
  omega
theorem seen_col {c : Nat} {t : List UInt8} (h : IsCol c t) (i : Nat) : IsCol c (seenH t i) := by
  intro b hb
  rcases List.mem_append.1 hb with hb | hb
  · exact h b (List.mem_of_mem_take hb)
  · exact h b (List.mem_of_mem_drop hb)
theorem nmb_snoc (c : Nat) (t : List UInt8) (b : UInt8) : nmb c (t ++ [b]) = nmb c t * c + hv b := by
  unfold nmb
  rw [List.foldl_append]
  rfl
theorem nmb_le {c : Nat} (h2 : 2 ≤ c) (h3 : c ≤ 3) {t : List UInt8} (hl : t.length ≤ 4) (ht : IsCol c t) : nmb c t < 100 := by
  have := hats_all (p := fun c t => decide (nmb c t < 100)) (by decide +kernel) h2 h3 hl ht
  simpa using this

/-- The sum of colours. -/
def hsum (t : List UInt8) : Nat := (t.map hv).sum
theorem hsum_snoc (t : List UInt8) (b : UInt8) : hsum (t ++ [b]) = hsum t + hv b := by simp [hsum]
theorem hsum_le {c : Nat} {t : List UInt8} (h3 : c ≤ 3) (h : IsCol c t) : hsum t ≤ 2 * t.length := by
  induction t with
  | nil => simp [hsum]
  | cons b t ih =>
    have hb := h b (List.mem_cons_self ..)
    have := ih fun x hx => h x (List.mem_cons_of_mem _ hx)
    have e : hsum (b :: t) = hv b + hsum t := by simp [hsum]
    rw [e, List.length_cons]
    unfold hv
    omega
theorem col_take {c : Nat} {t : List UInt8} (h : IsCol c t) (k : Nat) : IsCol c (t.take k) := fun b hb => h b (List.mem_of_mem_take hb)
theorem col_drop {c : Nat} {t : List UInt8} (h : IsCol c t) (k : Nat) : IsCol c (t.drop k) := fun b hb => h b (List.mem_of_mem_drop hb)
theorem col_append {c : Nat} {t u : List UInt8} (h : IsCol c t) (k : IsCol c u) : IsCol c (t ++ u) := fun b hb => (List.mem_append.1 hb).elim (h b) (k b)
theorem col_one {c n : Nat} (h : n < c) (hc : c ≤ 3) : IsCol c [hg n] := by
  intro b hb
  rw [List.mem_singleton.1 hb, hg_nat _ (by omega)]
  omega

/-- The places at which two texts are the same. -/
def rgt (A B : List UInt8) (k : Nat) : List Int := ((List.range k).filter fun i => A.getD i 0 == B.getD i 0).map fun (i : Nat) => (i : Int)
theorem rgt_succ (A B : List UInt8) (k : Nat) : rgt A B (k + 1) = rgt A B k ++ if A.getD k 0 = B.getD k 0 then [(k : Int)] else [] := by
  unfold rgt
  rw [List.range_succ, List.filter_append, List.map_append]
  congr 1
  by_cases h : A.getD k 0 = B.getD k 0
  · rw [if_pos h, List.filter_cons_of_pos (by rw [h]; exact beq_self_eq_true _)]
    rfl
  · rw [if_neg h, List.filter_cons_of_neg (by intro e; exact h (eq_of_beq e))]
    rfl
theorem rgt_le (A B : List UInt8) (k : Nat) : (rgt A B k).length ≤ k := by
  unfold rgt
  rw [List.length_map]
  exact Nat.le_trans (List.length_filter_le ..) (by simp)

/-- A plan for hats of c colours. -/
def IsPln (c : Int) (G : List (List UInt8)) : Prop := (2 ≤ G.length ∧ G.length ≤ 4) ∧ (2 ≤ c ∧ c ≤ 3) ∧ ∀ r ∈ G, r.length = c.toNat ^ (G.length - 1) ∧ IsCol c.toNat r
instance (c : Int) (G : List (List UInt8)) : Decidable (IsPln c G) := inferInstanceAs (Decidable (_ ∧ _ ∧ ∀ r ∈ G, _))
theorem pow_le : ∀ c < 4, ∀ m < 5, c ^ m ≤ 81 := by decide +kernel
theorem pow_pos' : ∀ c < 4, 2 ≤ c → ∀ m < 5, 1 ≤ c ^ m := by decide +kernel
/-- What all guess, and how many are right. -/
def gsH (c : Nat) (G : List (List UInt8)) (t : List UInt8) (k : Nat) : List UInt8 := (List.range k).map fun i => (G.getD i []).getD (vw c t i) 0
theorem gsH_len (c : Nat) (G : List (List UInt8)) (t : List UInt8) (k : Nat) : (gsH c G t k).length = k := by simp [gsH]
theorem gsH_succ (c : Nat) (G : List (List UInt8)) (t : List UInt8) (k : Nat) : gsH c G t (k + 1) = gsH c G t k ++ [(G.getD k []).getD (vw c t k) 0] := by simp [gsH, List.range_succ]
theorem pln_at {c : Nat} {G : List (List UInt8)} (h : IsPln c G) {t : List UInt8} (hl : t.length = G.length) (ht : IsCol c t) {i : Nat} (hi : i < G.length) :
    48 ≤ ((G.getD i []).getD (vw c t i) 0).toNat ∧ ((G.getD i []).getD (vw c t i) 0).toNat < 48 + c ∧ vw c t i < (G.getD i []).length := by
  obtain ⟨⟨h1, h2⟩, ⟨h3, h4⟩, h5⟩ := h
  obtain ⟨h6, h7⟩ := h5 _ (getD_memL (d := []) hi)
  rw [Int.toNat_natCast] at h6 h7
  have h8 := vw_lt (c := c) (by omega) (by omega) (by omega) ht (i := i) (by omega)
  rw [hl, ← h6] at h8
  obtain ⟨h9, h10⟩ := col_at h7 h8
  exact ⟨h9, h10, h8⟩
theorem gsH_col {c : Nat} {G : List (List UInt8)} (h : IsPln c G) {t : List UInt8} (hl : t.length = G.length) (ht : IsCol c t) {k : Nat} (hk : k ≤ G.length) : IsCol c (gsH c G t k) := by
  intro b hb
  unfold gsH at hb
  rw [List.mem_map] at hb
  obtain ⟨i, hi, rfl⟩ := hb
  have := pln_at h hl ht (i := i) (by have := List.mem_range.1 hi; omega)
  exact ⟨this.1, this.2.1⟩
end Go.Am
