/- Ways to go on with a giving, by sets of guests who have given: counted backward (what is left) and forward (what was reached); both are the same. No program. -/
import Derived.Test.YtaflppdffkcfeaaMaMu
namespace Go.Am
theorem set_lt' {n S k : Nat} (hS : S < 2 ^ n) (hk : k < n) (h : S.testBit k = false) : S + 2 ^ k < 2 ^ n := by
  rw [bit_add h]
  exact Nat.or_lt_two_pow hS (by rw [Nat.one_shiftLeft]; exact Nat.pow_lt_pow_right (by decide) hk)
theorem out_le' (n S : Nat) : outN n S ≤ n := by
  unfold outN
  have := List.length_filter_le (fun i => !S.testBit i) (List.range n)
  rwa [List.length_range] at this
/-- May x give to i, where S have given? The ways behind. -/
def bhT (F : List Int) (rest : Nat → Nat) (i S x : Nat) : Nat := if S.testBit x = false ∧ F.getD i 0 ≠ F.getD x 0 then rest (S + 2 ^ x) else 0
def bhTo (F : List Int) (rest : Nat → Nat) (i S : Nat) : Nat → Nat
  | 0 => 0
  | x + 1 => bhTo F rest i S x + bhT F rest i S x
/-- The ways where u guests are to give yet. -/
def bhW (F : List Int) : Nat → Nat → Nat
  | 0, _ => 1
  | u + 1, S => bhTo F (bhW F u) (F.length - (u + 1)) S F.length
def bhN (F : List Int) (S : Nat) : Nat := bhW F (outN F.length S) S
theorem bhTo_congr {F : List Int} {r q : Nat → Nat} {i S : Nat} : ∀ k, (∀ x < k, S.testBit x = false → r (S + 2 ^ x) = q (S + 2 ^ x)) → bhTo F r i S k = bhTo F q i S k
  | 0, _ => rfl
  | k + 1, h => by
    have e : bhT F r i S k = bhT F q i S k := by
      unfold bhT
      by_cases hc : S.testBit k = false ∧ F.getD i 0 ≠ F.getD k 0
      · rw [if_pos hc, if_pos hc, h k (by omega) hc.1]
      · rw [if_neg hc, if_neg hc]
    rw [bhTo, bhTo, bhTo_congr k fun x hx hb => h x (by omega) hb, e]
theorem bhTo_le {F : List Int} {r : Nat → Nat} {i S b : Nat} (h : ∀ T, r T ≤ b) : ∀ k, bhTo F r i S k ≤ k * b
  | 0 => by simp [bhTo]
  | k + 1 => by
    have h1 : bhT F r i S k ≤ b := by
      unfold bhT
      split
      · exact h _
      · omega
    rw [bhTo, Nat.add_mul, Nat.one_mul]
    have h2 := bhTo_le (F := F) (i := i) (S := S) h k
    omega
theorem bhW_le (F : List Int) : ∀ u S, bhW F u S ≤ F.length ^ u
  | 0, _ => by simp [bhW]
  | u + 1, S => by
    rw [bhW, Nat.pow_succ, Nat.mul_comm]
    exact bhTo_le (bhW_le F u) _
theorem bhN_le {F : List Int} (h9 : F.length ≤ 9) (S : Nat) : bhN F S ≤ 387420489 := by
  unfold bhN
  exact Nat.le_trans (bhW_le F _ S) (Nat.le_trans (Nat.pow_le_pow_left h9 _) (Nat.le_trans (Nat.pow_le_pow_right (by decide) (Nat.le_trans (out_le' F.length S) h9)) (by decide)))
theorem bhN_full {F : List Int} {S : Nat} (h : ∀ i < F.length, S.testBit i = true) : bhN F S = 1 := by
  unfold bhN
  rw [out_full _ h, bhW]
theorem bhN_step {F : List Int} {S u : Nat} (h : outN F.length S = u + 1) : bhN F S = bhTo F (bhN F) (F.length - (u + 1)) S F.length := by
  unfold bhN
  rw [h, bhW]
  refine bhTo_congr _ fun x hx hb => ?_
  have := out_more hb F.length hx
  rw [show outN F.length (S + 2 ^ x) = u by omega]

/-- The sum of a row's numbers times what is told of their places. -/
def dotF (b : Nat → Nat) : List Nat → Nat → Nat
  | [], _ => 0
  | a :: A, o => a * b o + dotF b A (o + 1)
theorem dot_zero (b : Nat → Nat) : ∀ n o, dotF b (List.replicate n 0) o = 0
  | 0, _ => rfl
  | n + 1, o => by rw [List.replicate_succ, dotF, dot_zero b n]; simp
theorem dot_set (b : Nat → Nat) (m : Nat) : ∀ (A : List Nat) (p o : Nat), p < A.length → dotF b (A.set p (A.getD p 0 + m)) o = dotF b A o + m * b (o + p)
  | [], p, o, h => by simp at h
  | a :: A, 0, o, _ => by simp [dotF, Nat.add_mul]; omega
  | a :: A, p + 1, o, h => by
    have := dot_set b m A p (o + 1) (by simpa using h)
    simp only [List.set_cons_succ, dotF, List.getD_cons_succ]
    rw [this, show o + 1 + p = o + (p + 1) by omega]
    omega
theorem dot_congr {b c : Nat → Nat} : ∀ (A : List Nat) (o : Nat), (∀ p < A.length, A.getD p 0 ≠ 0 → b (o + p) = c (o + p)) → dotF b A o = dotF c A o
  | [], _, _ => rfl
  | a :: A, o, h => by
    have h0 : a * b o = a * c o := by
      by_cases e : a = 0
      · rw [e]; simp
      · have := h 0 (by simp) (by simpa using e)
        rw [Nat.add_zero] at this
        rw [this]
    have h1 : dotF b A (o + 1) = dotF c A (o + 1) := dot_congr A (o + 1) fun p hp hn => by
      have := h (p + 1) (by simpa using hp) (by simpa using hn)
      rwa [show o + (p + 1) = o + 1 + p by omega] at this
    rw [dotF, dotF, h0, h1]
theorem dot_one {b : Nat → Nat} : ∀ (A : List Nat) (o q : Nat), q < A.length → (∀ p < A.length, p ≠ q → A.getD p 0 = 0) → dotF b A o = A.getD q 0 * b (o + q)
  | [], _, q, h, _ => by simp at h
  | a :: A, o, 0, _, hz => by
    have h0 : dotF b A (o + 1) = 0 := by
      have : A = List.replicate A.length 0 := List.ext_getElem? fun i => by
        by_cases hi : i < A.length
        · have := hz (i + 1) (by simpa using hi) (by omega)
          simp [hi] at this ⊢
          exact this
        · simp [hi]
      rw [this, dot_zero]
    rw [dotF, h0]; simp
  | a :: A, o, q + 1, h, hz => by
    have h0 : a = 0 := by simpa using hz 0 (by simp) (by omega)
    have := dot_one (b := b) A (o + 1) q (by simpa using h) fun p hp hpq => by simpa using hz (p + 1) (by simpa using hp) (by omega)
    rw [dotF, this, h0, show o + 1 + q = o + (q + 1) by omega]
    simp
theorem dot_ge (A : List Nat) : ∀ (o p : Nat), A.getD p 0 ≤ dotF (fun _ => 1) A o := by
  induction A with
  | nil => intro o p; simp
  | cons a A ih =>
    intro o p
    cases p with
    | zero => simp [dotF]
    | succ p => have := ih (o + 1) p; simp only [List.getD_cons_succ, dotF]; omega
theorem dot_mono {b c : Nat → Nat} {m : Nat} : ∀ (A : List Nat) (o : Nat), (∀ p, b p ≤ m * c p) → dotF b A o ≤ m * dotF c A o
  | [], _, _ => by simp [dotF]
  | a :: A, o, h => by
    have h1 : a * b o ≤ a * (m * c o) := Nat.mul_le_mul_left _ (h o)
    have h2 := dot_mono A (o + 1) h
    have e : a * (m * c o) = m * (a * c o) := by rw [Nat.mul_left_comm]
    rw [dotF, dotF, Nat.mul_add]
    omega
theorem dot_snoc (b : Nat → Nat) : ∀ (A : List Nat) (a o : Nat), dotF b (A ++ [a]) o = dotF b A o + a * b (o + A.length)
  | [], a, o => by simp [dotF]
  | x :: A, a, o => by
    simp only [List.cons_append, dotF, dot_snoc b A a (o + 1), List.length_cons]
    rw [show o + 1 + A.length = o + (A.length + 1) by omega]
    omega
theorem dot_take (b : Nat → Nat) (A : List Nat) (k : Nat) (hk : k < A.length) : dotF b (A.take (k + 1)) 0 = dotF b (A.take k) 0 + A.getD k 0 * b k := by
  rw [take_snoc A k 0 hk, dot_snoc, List.length_take, Nat.min_eq_left (by omega), Nat.zero_add]
theorem dot_take_le (b : Nat → Nat) (A : List Nat) (k : Nat) : dotF b (A.take k) 0 ≤ dotF b A 0 := by
  have key : ∀ (A : List Nat) (k o : Nat), dotF b (A.take k) o ≤ dotF b A o := by
    intro A
    induction A with
    | nil => intro k o; simp [dotF]
    | cons a A ih =>
      intro k o
      cases k with
      | zero => simp [dotF]
      | succ k => have := ih k (o + 1); simp only [List.take_succ_cons, dotF]; omega
  exact key A k 0

/-- One set's ways handed on to the sets with one guest more: behind the first x guests. -/
def stepTo (F : List Int) (i m t : Nat) (acc : List Nat) : Nat → List Nat
  | 0 => acc
  | x + 1 => if t.testBit x = false ∧ F.getD x 0 ≠ F.getD i 0 then (stepTo F i m t acc x).set (t + 2 ^ x) ((stepTo F i m t acc x).getD (t + 2 ^ x) 0 + m) else stepTo F i m t acc x
/-- Behind the first t sets. -/
def sweep (F : List Int) (i : Nat) (W : List Nat) : Nat → List Nat
  | 0 => List.replicate (2 ^ F.length) 0
  | t + 1 => if W.getD t 0 = 0 then sweep F i W t else stepTo F i (W.getD t 0) t (sweep F i W t) F.length
/-- The set of some guests. -/
def setB : List Int → Nat
  | [] => 0
  | x :: B => setB B + 2 ^ x.toNat
/-- The row behind k steps from a set of so many. -/
def fwd (F : List Int) (S l : Nat) : Nat → List Nat
  | 0 => (List.replicate (2 ^ F.length) 0).set S 1
  | k + 1 => sweep F (l + k) (fwd F S l k) (2 ^ F.length)
theorem stepTo_len (F : List Int) (i m t : Nat) (acc : List Nat) (x : Nat) : (stepTo F i m t acc x).length = acc.length := by
  induction x with
  | zero => rfl
  | succ x ih =>
    rw [stepTo]
    split
    · rw [List.length_set, ih]
    · exact ih
theorem sweep_len (F : List Int) (i : Nat) (W : List Nat) (t : Nat) : (sweep F i W t).length = 2 ^ F.length := by
  induction t with
  | zero => simp [sweep]
  | succ t ih =>
    rw [sweep]
    split
    · exact ih
    · rw [stepTo_len, ih]
theorem fwd_len (F : List Int) (S l k : Nat) : (fwd F S l k).length = 2 ^ F.length := by
  cases k with
  | zero => simp [fwd]
  | succ k => exact sweep_len ..
theorem stepTo_dot (F : List Int) (b : Nat → Nat) (i m t : Nat) (ht : t < 2 ^ F.length) (acc : List Nat) (ha : acc.length = 2 ^ F.length) : ∀ x, x ≤ F.length → dotF b (stepTo F i m t acc x) 0 = dotF b acc 0 + m * bhTo F b i t x
  | 0, _ => by simp [stepTo, bhTo]
  | x + 1, hx => by
    have ih := stepTo_dot F b i m t ht acc ha x (by omega)
    rw [stepTo, bhTo, Nat.mul_add]
    unfold bhT
    by_cases hc : t.testBit x = false ∧ F.getD x 0 ≠ F.getD i 0
    · rw [if_pos hc, if_pos ⟨hc.1, fun e => hc.2 e.symm⟩, dot_set _ _ _ _ _ (by rw [stepTo_len, ha]; exact set_lt' ht (by omega) hc.1), ih, Nat.zero_add]
      omega
    · rw [if_neg hc, if_neg fun h => hc ⟨h.1, fun e => h.2 e.symm⟩, ih]
      simp
theorem sweep_dot (F : List Int) (b : Nat → Nat) (i : Nat) (W : List Nat) (hW : W.length = 2 ^ F.length) : ∀ t, t ≤ 2 ^ F.length → dotF b (sweep F i W t) 0 = dotF (fun t => bhTo F b i t F.length) (W.take t) 0
  | 0, _ => by simp [sweep, dot_zero, dotF]
  | t + 1, ht => by
    have ih := sweep_dot F b i W hW t (by omega)
    rw [dot_take _ _ _ (by omega), sweep]
    by_cases h0 : W.getD t 0 = 0
    · rw [if_pos h0, ih, h0]; simp
    · rw [if_neg h0, stepTo_dot F b i _ t (by omega) _ (sweep_len ..) _ (Nat.le_refl _), ih]
theorem fwd_dot (F : List Int) (S l : Nat) (hS : S < 2 ^ F.length) (_hl : l ≤ F.length) : ∀ k, l + k ≤ F.length → dotF (bhW F (F.length - (l + k))) (fwd F S l k) 0 = bhW F (F.length - l) S
  | 0, _ => by
    have h := dot_set (bhW F (F.length - l)) 1 (List.replicate (2 ^ F.length) 0) S 0 (by simpa using hS)
    rw [dot_zero] at h
    simp only [Nat.add_zero, fwd]
    have e : (List.replicate (2 ^ F.length) 0).getD S 0 + 1 = 1 := by simp [hS]
    rw [e] at h
    rw [h]; simp
  | k + 1, hk => by
    have ih := fwd_dot F S l hS _hl k (by omega)
    rw [fwd, sweep_dot F _ _ _ (fwd_len ..) _ (Nat.le_refl _), List.take_of_length_le (by rw [fwd_len]; exact Nat.le_refl _), ← ih]
    congr 1
    funext t
    rw [show F.length - (l + k) = (F.length - (l + (k + 1))) + 1 by omega, bhW, show F.length - ((F.length - (l + (k + 1))) + 1) = l + k by omega]
/-- All sets that are reached have so many. -/
def Sup (n c : Nat) (A : List Nat) : Prop := ∀ T < A.length, A.getD T 0 ≠ 0 → outN n T = c
theorem getD_setN (l : List Nat) (n i a : Nat) : (l.set n a).getD i 0 = if n = i ∧ i < l.length then a else l.getD i 0 := by
  rw [List.getD_eq_getElem?_getD, List.getD_eq_getElem?_getD, List.getElem?_set]
  by_cases e : n = i
  · subst e
    by_cases h : n < l.length <;> simp [h]
  · simp [e]
theorem stepTo_sup {F : List Int} {i m t c : Nat} (hc : outN F.length t = c + 1) {acc : List Nat} (ha : Sup F.length c acc) (hl : acc.length = 2 ^ F.length) : ∀ x, x ≤ F.length → Sup F.length c (stepTo F i m t acc x)
  | 0, _ => ha
  | x + 1, hx => by
    have ih := stepTo_sup (i := i) (m := m) hc ha hl x (by omega)
    rw [stepTo]
    split
    · rename_i hb
      intro T hT hn
      rw [getD_setN] at hn
      by_cases e : t + 2 ^ x = T
      · subst e
        have := out_more hb.1 F.length (by omega)
        omega
      · rw [if_neg fun h => e h.1] at hn
        exact ih T (by simpa using hT) hn
    · exact ih
theorem sweep_sup {F : List Int} {i c : Nat} {W : List Nat} (hW : Sup F.length (c + 1) W) (hl : W.length = 2 ^ F.length) : ∀ t, t ≤ 2 ^ F.length → Sup F.length c (sweep F i W t)
  | 0, _ => by
    intro T hT hn
    rw [sweep] at hT hn
    have : (List.replicate (2 ^ F.length) 0).getD T 0 = 0 := by
      rw [List.getD_eq_getElem?_getD, List.getElem?_replicate]
      split <;> rfl
    exact absurd this hn
  | t + 1, ht => by
    have ih := sweep_sup (i := i) hW hl t (by omega)
    rw [sweep]
    split
    · exact ih
    · rename_i h0
      exact stepTo_sup (hW t (by omega) h0) ih (sweep_len ..) _ (Nat.le_refl _)
theorem fwd_sup {F : List Int} {S l : Nat} (hl : outN F.length S + l = F.length) : ∀ k, l + k ≤ F.length → Sup F.length (F.length - (l + k)) (fwd F S l k)
  | 0, _ => by
    intro T hT hn
    rw [fwd, getD_setN] at hn
    by_cases e : S = T
    · subst e; omega
    · rw [if_neg fun h => e h.1] at hn
      have : (List.replicate (2 ^ F.length) 0).getD T 0 = 0 := by
        rw [List.getD_eq_getElem?_getD, List.getElem?_replicate]
        split <;> rfl
      exact absurd this hn
  | k + 1, hk => by
    have ih := fwd_sup hl k (by omega)
    rw [show F.length - (l + k) = (F.length - (l + (k + 1))) + 1 by omega] at ih
    rw [fwd]
    exact sweep_sup ih (fwd_len ..) _ (Nat.le_refl _)
theorem full_set {n T : Nat} (hT : T < 2 ^ n) (h : outN n T = 0) : T = 2 ^ n - 1 := by
  have hb := out_zero n h
  refine Nat.eq_of_testBit_eq fun i => ?_
  rw [Nat.testBit_two_pow_sub_one]
  by_cases hi : i < n
  · rw [hb i hi, decide_eq_true hi]
  · rw [decide_eq_false hi]
    exact Nat.testBit_lt_two_pow (Nat.lt_of_lt_of_le hT (Nat.pow_le_pow_right (by decide) (by omega)))
/-- What the forward count tells. -/
theorem fwd_end {F : List Int} {S l : Nat} (hS : S < 2 ^ F.length) (hl : outN F.length S + l = F.length) : (fwd F S l (F.length - l)).getD (2 ^ F.length - 1) 0 = bhN F S := by
  have h1 := fwd_dot F S l hS (by omega) (F.length - l) (by omega)
  have h2 := fwd_sup hl (F.length - l) (by omega)
  have hlen := fwd_len F S l (F.length - l)
  have hpos : 0 < 2 ^ F.length := Nat.two_pow_pos _
  rw [show F.length - (l + (F.length - l)) = 0 by omega] at h1 h2
  have h3 := dot_one (b := bhW F 0) (fwd F S l (F.length - l)) 0 (2 ^ F.length - 1) (by omega) fun p hp hne => by
    by_cases h0 : (fwd F S l (F.length - l)).getD p 0 = 0
    · exact h0
    · exact absurd (full_set (by omega) (h2 p hp h0)) hne
  rw [h3] at h1
  rw [bhW, Nat.mul_one] at h1
  rw [h1, bhN, show outN F.length S = F.length - l by omega]
/-- No number is too great. -/
def tot1 (A : List Nat) : Nat := dotF (fun _ => 1) A 0
theorem sweep_tot {F : List Int} (h9 : F.length ≤ 9) {i : Nat} {W : List Nat} (hW : W.length = 2 ^ F.length) {t : Nat} (ht : t ≤ 2 ^ F.length) : tot1 (sweep F i W t) ≤ 9 * tot1 W := by
  unfold tot1
  rw [sweep_dot F _ i W hW t ht]
  refine Nat.le_trans (dot_mono (m := 9) (c := fun _ => 1) _ 0 fun p => ?_) (Nat.mul_le_mul_left _ (dot_take_le _ _ _))
  have := bhTo_le (F := F) (r := fun _ => 1) (i := i) (S := p) (b := 1) (fun _ => Nat.le_refl _) F.length
  omega
theorem fwd_tot {F : List Int} (h9 : F.length ≤ 9) (S l : Nat) (hS : S < 2 ^ F.length) : ∀ k, tot1 (fwd F S l k) ≤ 9 ^ k
  | 0 => by
    have h := dot_set (fun _ => 1) 1 (List.replicate (2 ^ F.length) 0) S 0 (by simpa using hS)
    rw [dot_zero] at h
    have e : (List.replicate (2 ^ F.length) 0).getD S 0 + 1 = 1 := by simp [hS]
    rw [e] at h
    unfold tot1
    rw [fwd, h]; simp
  | k + 1 => by
    have ih := fwd_tot h9 S l hS k
    rw [fwd, Nat.pow_succ, Nat.mul_comm]
    exact Nat.le_trans (sweep_tot h9 (fwd_len ..) (Nat.le_refl _)) (Nat.mul_le_mul_left _ ih)
theorem stepTo_tot {F : List Int} (h9 : F.length ≤ 9) {i m t : Nat} (ht : t < 2 ^ F.length) {acc : List Nat} (ha : acc.length = 2 ^ F.length) {x : Nat} (hx : x ≤ F.length) : tot1 (stepTo F i m t acc x) ≤ tot1 acc + m * 9 := by
  unfold tot1
  rw [stepTo_dot F _ i m t ht acc ha x hx]
  have := bhTo_le (F := F) (r := fun _ => 1) (i := i) (S := t) (b := 1) (fun _ => Nat.le_refl _) x
  have h2 : m * bhTo F (fun _ => 1) i t x ≤ m * 9 := Nat.mul_le_mul_left _ (by omega)
  omega
theorem tot_ge (A : List Nat) (p : Nat) : A.getD p 0 ≤ tot1 A := dot_ge A 0 p
end Go.Am
