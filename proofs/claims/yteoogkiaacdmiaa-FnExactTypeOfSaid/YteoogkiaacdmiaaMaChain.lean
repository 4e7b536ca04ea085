/- Chains of exchanges, as lists alone. -/
import Derived.Test.YteoogkiaacdmiaaMaNone
namespace Go.Am

/-- A list with each number below its length once. -/
def IsPm (L : List Int) : Prop := (∀ x ∈ L, 0 ≤ x ∧ x < L.length) ∧ L.Nodup
/-- The next one, and the one behind k steps. -/
def nx (L : List Int) (j : Nat) : Nat := (L.getD j 0).toNat
def it (L : List Int) : Nat → Nat → Nat
  | 0, i => i
  | k + 1, i => nx L (it L k i)
theorem nx_lt {L : List Int} (h : IsPm L) {j : Nat} (hj : j < L.length) : nx L j < L.length ∧ L.getD j 0 = (nx L j : Int) := by
  have h1 : L.getD j 0 ∈ L := by simp [hj]
  have := h.1 _ h1
  unfold nx
  omega
theorem nx_inj {L : List Int} (h : IsPm L) {i j : Nat} (hi : i < L.length) (hj : j < L.length) (e : nx L i = nx L j) : i = j := by
  have h1 := (nx_lt h hi).2
  have h2 := (nx_lt h hj).2
  rw [e, ← h2] at h1
  have e1 : L[i]? = L[j]? := by
    rw [List.getElem?_eq_getElem hi, List.getElem?_eq_getElem hj]
    simpa [hi, hj] using h1
  exact (List.getElem?_inj hi h.2).1 e1
theorem it_lt {L : List Int} (h : IsPm L) {i : Nat} (hi : i < L.length) (k : Nat) : it L k i < L.length := by
  induction k with
  | zero => exact hi
  | succ k ih => exact (nx_lt h ih).1
theorem it_add (L : List Int) (a b i : Nat) : it L (a + b) i = it L a (it L b i) := by
  induction a with
  | zero => rw [Nat.zero_add]; rfl
  | succ a ih => rw [Nat.succ_add]; simp only [it]; rw [ih]
theorem it_inj {L : List Int} (h : IsPm L) (a : Nat) {i j : Nat} (hi : i < L.length) (hj : j < L.length) (e : it L a i = it L a j) : i = j := by
  induction a with
  | zero => exact e
  | succ a ih => exact ih (nx_inj h (it_lt h hi a) (it_lt h hj a) e)
/-- The length of the chain. -/
def perA (L : List Int) (i : Nat) : Nat → Nat → Nat
  | 0, k => k
  | f + 1, k => if it L k i = i then k else perA L i f (k + 1)
def per (L : List Int) (i : Nat) : Nat := perA L i L.length 1
theorem perA_spec {L : List Int} {i : Nat} {f k m : Nat} (hm : m = k + f) (hex : ∃ q, k ≤ q ∧ q < m ∧ it L q i = i) : (∀ q, k ≤ q → q < perA L i f k → it L q i ≠ i) ∧ it L (perA L i f k) i = i ∧ k ≤ perA L i f k ∧ perA L i f k < m := by
  induction f generalizing k with
  | zero => obtain ⟨q, h1, h2, _⟩ := hex; omega
  | succ f ih =>
    simp only [perA]
    by_cases e : it L k i = i
    · rw [if_pos e]
      exact ⟨fun q h1 h2 => by omega, e, Nat.le_refl _, by omega⟩
    · rw [if_neg e]
      obtain ⟨q, h1, h2, h3⟩ := hex
      have hq : k + 1 ≤ q := by
        rcases Nat.lt_or_ge k q with h4 | h4
        · exact h4
        · have : q = k := by omega
          rw [this] at h3; exact absurd h3 e
      obtain ⟨h4, h5, h6, h7⟩ := ih (k := k + 1) (by omega) ⟨q, hq, h2, h3⟩
      refine ⟨fun q h8 h9 => ?_, h5, by omega, h7⟩
      rcases Nat.lt_or_ge k q with h10 | h10
      · exact h4 q (by omega) h9
      · have : q = k := by omega
        rw [this]; exact e
theorem per_ex {L : List Int} (h : IsPm L) {i : Nat} (hi : i < L.length) : ∃ q, 1 ≤ q ∧ q < 1 + L.length ∧ it L q i = i := by
  refine Classical.byContradiction fun hno => ?_
  have hne : ∀ q, 1 ≤ q → q < 1 + L.length → it L q i ≠ i := fun q h1 h2 h3 => hno ⟨q, h1, h2, h3⟩
  have hdist : ∀ a b, a < b → b ≤ L.length → it L a i ≠ it L b i := by
    intro a b hab hb e
    have e2 : b = a + (b - a) := by omega
    rw [e2, it_add] at e
    exact hne (b - a) (by omega) (by omega) (it_inj h a hi (it_lt h hi _) e).symm
  have hpart : Part ((List.range (L.length + 1)).map fun k => ((it L k i : Nat) : Int)) L.length := by
    refine ⟨fun x hx => ?_, ?_⟩
    · rw [List.mem_map] at hx
      obtain ⟨k, _, rfl⟩ := hx
      have := it_lt h hi k
      omega
    · rw [List.Nodup, List.pairwise_map]
      refine List.Pairwise.imp_of_mem ?_ (List.pairwise_lt_range (n := L.length + 1))
      intro a b ha hb hab e
      rw [List.mem_range] at hb
      exact hdist a b hab (by omega) (by omega)
  have := freeTo_part _ _ hpart
  simp at this
  omega
theorem per_spec {L : List Int} (h : IsPm L) {i : Nat} (hi : i < L.length) : 1 ≤ per L i ∧ per L i ≤ L.length ∧ it L (per L i) i = i ∧ ∀ q, 1 ≤ q → q < per L i → it L q i ≠ i := by
  obtain ⟨h1, h2, h3, h4⟩ := perA_spec (f := L.length) (k := 1) rfl (per_ex h hi)
  exact ⟨h3, by unfold per; omega, h2, h1⟩
theorem per_dist {L : List Int} (h : IsPm L) {i : Nat} (hi : i < L.length) {a b : Nat} (hab : a < b) (hb : b < per L i) : it L a i ≠ it L b i := by
  intro e
  have e2 : b = a + (b - a) := by omega
  rw [e2, it_add] at e
  exact (per_spec h hi).2.2.2 (b - a) (by omega) (by omega) (it_inj h a hi (it_lt h hi _) e).symm
theorem it_mul {L : List Int} (h : IsPm L) {i : Nat} (hi : i < L.length) (c : Nat) : it L (per L i * c) i = i := by
  induction c with
  | zero => rfl
  | succ c ih => rw [Nat.mul_succ, it_add, (per_spec h hi).2.2.1, ih]
theorem it_mod {L : List Int} (h : IsPm L) {i : Nat} (hi : i < L.length) (k : Nat) : it L k i = it L (k % per L i) i := by
  have := it_mul h hi (k / per L i)
  conv => lhs; rw [← Nat.mod_add_div k (per L i), it_add, this]
/-- Is j on the chain of m? -/
def onC (L : List Int) (m j : Nat) : Prop := ∃ k, it L k m = j
theorem onC_lt {L : List Int} (h : IsPm L) {m j : Nat} (hm : m < L.length) : onC L m j ↔ ∃ k, k < per L m ∧ it L k m = j := by
  constructor
  · rintro ⟨k, hk⟩
    exact ⟨k % per L m, Nat.mod_lt _ (per_spec h hm).1, by rw [← it_mod h hm]; exact hk⟩
  · rintro ⟨k, _, hk⟩
    exact ⟨k, hk⟩
theorem onC_symm {L : List Int} (h : IsPm L) {m j : Nat} (hm : m < L.length) (ho : onC L m j) : onC L j m := by
  obtain ⟨k, rfl⟩ := ho
  refine ⟨per L m * k - k, ?_⟩
  rw [← it_add]
  have : k ≤ per L m * k := Nat.le_mul_of_pos_left k (per_spec h hm).1
  rw [Nat.sub_add_cancel this, it_mul h hm]
theorem onC_trans {L : List Int} {a b c : Nat} (h1 : onC L a b) (h2 : onC L b c) : onC L a c := by
  obtain ⟨k, rfl⟩ := h1
  obtain ⟨l, rfl⟩ := h2
  exact ⟨l + k, it_add L l k a⟩
theorem onC_step {L : List Int} {a b : Nat} (k : Nat) (h : onC L a (it L k b)) (hb : onC L (it L k b) b) : onC L a b := onC_trans h hb

/-- Is j on a chain of one of the first i? -/
def seenB (L : List Int) (i j : Nat) : Bool := (List.range i).any fun m => (List.range L.length).any fun k => it L k m == j
theorem seenB_iff {L : List Int} (h : IsPm L) {i j : Nat} (hi : i ≤ L.length) : seenB L i j = true ↔ ∃ m, m < i ∧ onC L m j := by
  unfold seenB
  simp only [List.any_eq_true, List.mem_range, beq_iff_eq]
  constructor
  · rintro ⟨m, hm, k, _, hk⟩
    exact ⟨m, hm, k, hk⟩
  · rintro ⟨m, hm, ho⟩
    obtain ⟨k, hk, he⟩ := (onC_lt h (by omega)).1 ho
    exact ⟨m, hm, k, by have := (per_spec h (show m < L.length by omega)).2.1; omega, he⟩
/-- The first k of a chain, as numbers. -/
def chT (L : List Int) (i k : Nat) : List Int := (List.range k).map fun a => ((it L a i : Nat) : Int)
theorem chT_len (L : List Int) (i k : Nat) : (chT L i k).length = k := by simp [chT]
theorem chT_succ (L : List Int) (i k : Nat) : chT L i (k + 1) = chT L i k ++ [((it L k i : Nat) : Int)] := by simp [chT, List.range_succ]
/-- The whole chain. -/
def chn (L : List Int) (i : Nat) : List Int := chT L i (per L i)
/-- The chains that begin with one of the first i. -/
def chsTo (L : List Int) : Nat → List (List Int)
  | 0 => []
  | i + 1 => if seenB L i i then chsTo L i else chsTo L i ++ [chn L i]
theorem chsTo_len (L : List Int) (i : Nat) : (chsTo L i).length ≤ i := by
  induction i with
  | zero => simp [chsTo]
  | succ i ih =>
    simp only [chsTo]
    split
    · omega
    · rw [List.length_append, List.length_singleton]; omega
def chs (L : List Int) : List (List Int) := chsTo L L.length
/-- Marked: all on chains of the first i, and the first k on the chain of i. -/
def seenK (L : List Int) (i k n : Nat) : List Bool := (List.range n).map fun j => seenB L i j || (List.range k).any fun a => it L a i == j
theorem seenK_len (L : List Int) (i k n : Nat) : (seenK L i k n).length = n := by simp [seenK]
theorem seenK_get (L : List Int) (i k n : Nat) {j : Nat} (hj : j < n) : (seenK L i k n)[j]? = some (seenB L i j || (List.range k).any fun a => it L a i == j) := by simp [seenK, hj]
theorem seenK_set (L : List Int) (i k n : Nat) (h : it L k i < n) : (seenK L i k n).set (it L k i) true = seenK L i (k + 1) n := by
  apply List.ext_getElem?
  intro j
  rw [List.getElem?_set]
  by_cases hj : j < n
  · rw [seenK_get _ _ _ _ hj, seenK_get _ _ _ _ hj, seenK_len, List.range_succ, List.any_append]
    by_cases e : it L k i = j
    · subst e; simp [h]
    · have e' : (it L k i == j) = false := by simpa using e
      simp [e, e']
  · by_cases e : it L k i = j
    · omega
    · simp [seenK, hj, e]
theorem seenK_zero (L : List Int) (i n : Nat) : seenK L i 0 n = (List.range n).map fun j => seenB L i j := by simp [seenK]
theorem seenK_all {L : List Int} (h : IsPm L) {i n : Nat} (hi : i < L.length) : seenK L i (per L i) n = seenK L (i + 1) 0 n := by
  rw [seenK_zero]
  unfold seenK
  refine List.map_congr_left fun j _ => ?_
  rw [Bool.eq_iff_iff, Bool.or_eq_true, seenB_iff h (by omega), seenB_iff h (by omega)]
  simp only [List.any_eq_true, List.mem_range, beq_iff_eq]
  rw [← onC_lt h hi]
  constructor
  · rintro (⟨m, h1, h2⟩ | h1)
    · exact ⟨m, by omega, h2⟩
    · exact ⟨i, by omega, h1⟩
  · rintro ⟨m, h1, h2⟩
    by_cases e : m = i
    · exact .inr (e ▸ h2)
    · exact .inl ⟨m, by omega, h2⟩
theorem seenK_skip {L : List Int} (h : IsPm L) {i n : Nat} (hi : i < L.length) (hs : seenB L i i = true) : seenK L i 0 n = seenK L (i + 1) 0 n := by
  rw [seenK_zero, seenK_zero]
  refine List.map_congr_left fun j _ => ?_
  rw [Bool.eq_iff_iff, seenB_iff h (by omega), seenB_iff h (by omega)]
  obtain ⟨m, h1, h2⟩ := (seenB_iff h (by omega)).1 hs
  constructor
  · rintro ⟨m, h1, h2⟩
    exact ⟨m, by omega, h2⟩
  · rintro ⟨q, h3, h4⟩
    by_cases e : q = i
    · exact ⟨m, h1, onC_trans h2 (e ▸ h4)⟩
    · exact ⟨q, by omega, h4⟩
/-- On the way along a chain that is new nothing is marked, up to its end. -/
theorem seenK_not {L : List Int} (h : IsPm L) {i n k : Nat} (hi : i < L.length) (hs : seenB L i i = false) (hk : k < per L i) (hn : L.length ≤ n) : (seenK L i k n)[it L k i]? = some false := by
  have hlt := it_lt h hi k
  rw [seenK_get _ _ _ _ (by omega)]
  congr 1
  rw [Bool.or_eq_false_iff]
  constructor
  · rw [Bool.eq_false_iff]
    intro hh
    obtain ⟨m, h1, h2⟩ := (seenB_iff h (by omega)).1 hh
    have : seenB L i i = true := (seenB_iff h (by omega)).2 ⟨m, h1, onC_trans h2 (onC_symm h hi ⟨k, rfl⟩)⟩
    rw [hs] at this; cases this
  · rw [Bool.eq_false_iff]
    intro hh
    simp only [List.any_eq_true, List.mem_range, beq_iff_eq] at hh
    obtain ⟨a, h1, h2⟩ := hh
    exact per_dist h hi h1 hk h2
theorem seenK_end {L : List Int} (h : IsPm L) {i n : Nat} (hi : i < L.length) (hn : L.length ≤ n) : (seenK L i (per L i) n)[it L (per L i) i]? = some true := by
  have hp := per_spec h hi
  have hlt := it_lt h hi (per L i)
  rw [seenK_get _ _ _ _ (by omega)]
  congr 1
  rw [Bool.or_eq_true]
  right
  simp only [List.any_eq_true, List.mem_range, beq_iff_eq]
  exact ⟨0, hp.1, by rw [hp.2.2.1]; rfl⟩
end Go.Am
