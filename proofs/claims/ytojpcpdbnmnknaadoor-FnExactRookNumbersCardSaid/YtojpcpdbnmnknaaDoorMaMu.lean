/- Sets as the bits of an int: what is asked of one, and one guest more. The ways to pair those outside a set, of two families each. No program. -/
import Derived.Test.YtojpcpdbnmnknaaDoorAmX
namespace Go.Am
variable {P : Program} {own : Bool} {s : AS} {K : AS → Prop} {d : Option Nat} {x y : Opd} {a k : Nat}
theorem m_shri (hx : s.ev x = .i (a : Nat)) (hy : s.ev y = .i (k : Nat)) (hk : k < 64) (kk : K (s.put d (.i (a >>> k : Nat)))) : aop1 P own ⟨d, .bin .shr x y, none⟩ s K := by
  refine ⟨_, _, _, hx, hy, ?_, kk⟩
  have h1 : ¬ ((k : Nat) : Int) < 0 := by omega
  have h2 : min ((k : Nat) : Int).toNat IntKind.i64.bits = k := by show min _ 64 = k; omega
  show (if ((k : Nat) : Int) < 0 then none else some (Value.int .i64 ((a : Int).fdiv (2 ^ (min ((k : Nat) : Int).toNat IntKind.i64.bits))))) = _
  rw [if_neg h1, h2, Nat.shiftRight_eq_div_pow]
  congr 2
  rw [Int.fdiv_eq_ediv_of_nonneg _ (by exact Int.le_of_lt (Int.pow_pos (by decide)))]
  push_cast
  rfl
theorem m_shli (hx : s.ev x = .i 1) (hy : s.ev y = .i (k : Nat)) (hk : k < 62) (kk : K (s.put d (.i (2 ^ k : Nat)))) : aop1 P own ⟨d, .bin .shl x y, none⟩ s K := by
  refine ⟨_, _, _, hx, hy, ?_, kk⟩
  have h1 : ¬ ((k : Nat) : Int) < 0 := by omega
  have h2 : min ((k : Nat) : Int).toNat IntKind.i64.bits = k := by show min _ 64 = k; omega
  show (if ((k : Nat) : Int) < 0 then none else some (Value.int .i64 (IntKind.i64.wrap ((1 : Int) * 2 ^ (min ((k : Nat) : Int).toNat IntKind.i64.bits))))) = _
  rw [if_neg h1, h2]
  congr 2
  have h3 : 2 ^ k < 2 ^ 62 := Nat.pow_lt_pow_right (by decide) hk
  have h62 : (2 : Nat) ^ 62 = 4611686018427387904 := by decide
  have h4 : ((1 : Int) * (2 : Int) ^ k) = ((2 ^ k : Nat) : Int) := by rw [Int.one_mul]; push_cast; rfl
  rw [h4, IntKind.wrap_i64]
  generalize 2 ^ k = z at *
  omega
theorem m_andi1 (hx : s.ev x = .i (a : Nat)) (hy : s.ev y = .i 1) (ha : a < 4611686018427387904) (kk : K (s.put d (.i (a &&& 1 : Nat)))) : aop1 P own ⟨d, .bin .and x y, none⟩ s K := by
  refine ⟨_, _, _, hx, hy, ?_, kk⟩
  show some (Value.int .i64 (IntKind.i64.wrap ((BitVec.ofInt IntKind.i64.bits (a : Int) &&& BitVec.ofInt IntKind.i64.bits 1).toNat : Int))) = _
  have h1 : (BitVec.ofInt IntKind.i64.bits (a : Int)).toNat = a := by
    show (BitVec.ofInt 64 (a : Int)).toNat = a
    rw [BitVec.ofInt_natCast, BitVec.toNat_ofNat]
    omega
  have h2 : (BitVec.ofInt IntKind.i64.bits 1).toNat = 1 := by decide
  have h3 : a &&& 1 ≤ 1 := Nat.and_le_right
  have h5 : IntKind.i64.wrap ((a &&& 1 : Nat) : Int) = ((a &&& 1 : Nat) : Int) := by
    rw [IntKind.wrap_i64]
    generalize a &&& 1 = z at *
    omega
  rw [BitVec.toNat_and, h1, h2, h5]
/-- One guest more, by a sum. -/
theorem bit_add {S k : Nat} (h : S.testBit k = false) : S + 2 ^ k = S ||| 1 <<< k := by
  have h1 : S = 2 ^ k * (S / 2 ^ k) + S % 2 ^ k := (Nat.div_add_mod S (2 ^ k)).symm
  have hlt : S % 2 ^ k < 2 ^ k := Nat.mod_lt _ (Nat.two_pow_pos k)
  have hev : (S / 2 ^ k) % 2 = 0 := by
    rw [Nat.testBit_eq_decide_div_mod_eq] at h
    have := of_decide_eq_false h
    omega
  obtain ⟨m, hm⟩ : ∃ m, S / 2 ^ k = 2 * m := ⟨S / 2 ^ k / 2, by omega⟩
  have h2 : 2 * m ||| 1 = 2 * m + 1 := by
    have := Nat.two_pow_add_eq_or_of_lt (i := 1) (b := 1) (by decide) m
    simpa using this.symm
  apply Nat.eq_of_testBit_eq
  intro i
  rw [Nat.testBit_or, Nat.one_shiftLeft]
  have e1 : S + 2 ^ k = 2 ^ k * (2 * m + 1) + S % 2 ^ k := by
    conv => lhs; rw [h1, hm]
    rw [Nat.mul_add]; omega
  rw [e1, Nat.testBit_two_pow_mul_add _ hlt]
  have e2 : S.testBit i = (2 ^ k * (2 * m) + S % 2 ^ k).testBit i := by rw [← hm, Nat.div_add_mod]
  rw [e2, Nat.testBit_two_pow_mul_add _ hlt, Nat.testBit_two_pow]
  split
  · rename_i hi
    simp
    intro hc; omega
  · rename_i hi
    rw [← h2, Nat.testBit_or]
    congr 1
    rw [show (1 : Nat) = 2 ^ 0 from rfl, Nat.testBit_two_pow]
    simp
    omega
/-- The first guest outside a set, or n. -/
def fstOut (n S : Nat) : Nat := ((List.range n).find? fun i => !S.testBit i).getD n
/-- How many are outside. -/
def outN (n S : Nat) : Nat := ((List.range n).filter fun i => !S.testBit i).length
/-- The ways behind a partner of the first one outside, where u more are outside. -/
def mutT (F : List Int) (rest : Nat → Nat) (S k j : Nat) : Nat := if k < j ∧ S.testBit j = false ∧ F.getD j 0 ≠ F.getD k 0 then rest (S + 2 ^ k + 2 ^ j) else 0
/-- The ways, for u guests outside the set. -/
def mutW (F : List Int) : Nat → Nat → Nat
  | 0, _ => 1
  | 1, _ => 0
  | u + 2, S => ((List.range F.length).map (mutT F (mutW F u) S (fstOut F.length S))).sum
def mutN (F : List Int) (S : Nat) : Nat := mutW F (outN F.length S) S
theorem out_succ (n S : Nat) : outN (n + 1) S = outN n S + (if S.testBit n = true then 0 else 1) := by
  unfold outN
  rw [List.range_succ, List.filter_append, List.length_append]
  cases h : S.testBit n <;> simp [h]
theorem out_same {S T : Nat} : ∀ n, (∀ i < n, S.testBit i = T.testBit i) → outN n S = outN n T
  | 0, _ => rfl
  | n + 1, h => by rw [out_succ, out_succ, out_same n fun i hi => h i (by omega), h n (by omega)]
theorem bit_more {S k : Nat} (h : S.testBit k = false) (i : Nat) : (S + 2 ^ k).testBit i = (S.testBit i || decide (i = k)) := by rw [bit_add h, bit_or]
theorem out_more {S k : Nat} (h : S.testBit k = false) : ∀ n, k < n → outN n (S + 2 ^ k) + 1 = outN n S
  | 0, hk => absurd hk (by omega)
  | n + 1, hk => by
    rw [out_succ, out_succ]
    by_cases e : k = n
    · subst e
      have hs : ∀ i < k, (S + 2 ^ k).testBit i = S.testBit i := fun i hi => by
        rw [bit_more h, show decide (i = k) = false from decide_eq_false (by omega), Bool.or_false]
      have hk1 : (S + 2 ^ k).testBit k = true := by rw [bit_more h]; simp
      rw [out_same k hs, hk1, h]
      simp
    · have := out_more h n (by omega)
      rw [bit_more h, show decide (n = k) = false from decide_eq_false fun e' => e e'.symm, Bool.or_false]
      omega
theorem out_zero {S : Nat} : ∀ n, outN n S = 0 → ∀ i < n, S.testBit i = true
  | 0, _, i, hi => absurd hi (by omega)
  | n + 1, h, i, hi => by
    rw [out_succ] at h
    by_cases e : i = n
    · subst e
      cases hb : S.testBit i with
      | true => rfl
      | false => rw [hb] at h; simp at h
    · exact out_zero n (by omega) i (by omega)
theorem out_full {S : Nat} : ∀ n, (∀ i < n, S.testBit i = true) → outN n S = 0
  | 0, _ => rfl
  | n + 1, h => by rw [out_succ, out_full n fun i hi => h i (by omega), h n (by omega)]; rfl
theorem fst_eq {n S k : Nat} (hk : k < n) (h : S.testBit k = false) (h2 : ∀ i < k, S.testBit i = true) : fstOut n S = k := by
  unfold fstOut
  rw [List.find?_range_eq_some.2 ⟨by simp [h], List.mem_range.2 hk, fun j hj => by simp [h2 j hj]⟩]
  rfl
theorem mut_full {F : List Int} {S : Nat} (h : ∀ i < F.length, S.testBit i = true) : mutN F S = 1 := by
  unfold mutN
  rw [out_full _ h, mutW]
theorem sum_zero {f : Nat → Nat} : ∀ {l : List Nat}, (∀ j ∈ l, f j = 0) → (l.map f).sum = 0
  | [], _ => rfl
  | a :: l, h => by
    rw [List.map_cons, List.sum_cons, h a (by simp), sum_zero fun j hj => h j (List.mem_cons_of_mem _ hj)]
/-- The ways, by the first one outside. -/
theorem mut_first {F : List Int} {S k : Nat} (hk : k < F.length) (h : S.testBit k = false) (h2 : ∀ i < k, S.testBit i = true) :
    mutN F S = ((List.range F.length).map (mutT F (mutN F) S k)).sum := by
  have h1 := out_more h F.length hk
  have key : ∀ j ∈ List.range F.length, k < j ∧ S.testBit j = false → outN F.length (S + 2 ^ k + 2 ^ j) + 2 = outN F.length S := by
    rintro j hj ⟨hkj, hb⟩
    have := out_more (S := S + 2 ^ k) (k := j) (by rw [bit_more h, hb]; simp; omega) F.length (List.mem_range.1 hj)
    omega
  unfold mutN
  match hu : outN F.length S with
  | 0 => omega
  | 1 =>
    rw [mutW]
    refine (sum_zero fun j hj => ?_).symm
    unfold mutT
    rw [if_neg fun hc => by have := key j hj ⟨hc.1, hc.2.1⟩; omega]
  | u + 2 =>
    rw [mutW, fst_eq hk h h2]
    congr 1
    refine List.map_congr_left fun j hj => ?_
    unfold mutT
    by_cases hc : k < j ∧ S.testBit j = false ∧ F.getD j 0 ≠ F.getD k 0
    · rw [if_pos hc, if_pos hc]
      have := key j hj ⟨hc.1, hc.2.1⟩
      show _ = mutW F (outN F.length (S + 2 ^ k + 2 ^ j)) _
      rw [show outN F.length (S + 2 ^ k + 2 ^ j) = u by omega]
    · rw [if_neg hc, if_neg hc]
theorem mutW_le (F : List Int) : ∀ u S, mutW F u S ≤ F.length ^ u
  | 0, _ => by simp [mutW]
  | 1, _ => by simp [mutW]
  | u + 2, S => by
    rw [mutW]
    have : ∀ (l : List Nat) (f : Nat → Nat) (b : Nat), (∀ j, f j ≤ b) → (l.map f).sum ≤ l.length * b := by
      intro l f b hb
      induction l with
      | nil => simp
      | cons a l ih => simp only [List.map_cons, List.sum_cons, List.length_cons, Nat.add_mul, Nat.one_mul]; have := hb a; omega
    by_cases h0 : F.length = 0
    · rw [h0]; simp
    refine Nat.le_trans (this _ _ (F.length ^ u) fun j => ?_) ?_
    · unfold mutT
      split
      · exact mutW_le F u _
      · exact Nat.zero_le _
    · rw [List.length_range, Nat.pow_succ, Nat.pow_succ, Nat.mul_comm]
      exact Nat.le_mul_of_pos_right _ (by omega)
end Go.Am
