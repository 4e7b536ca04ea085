/- Contracts: the program counts pairs. -/
import Derived.Test.YtgekggljdcnmeaaDoorSpMx
namespace Go.Am
theorem not_bit {S i : Nat} (h : S < 65536) : (65535 - S).testBit i = (decide (i < 16) && !S.testBit i) := by
  have := Nat.testBit_two_pow_sub_succ (n := 16) h i
  rwa [show 2 ^ 16 - (S + 1) = 65535 - S by omega] at this
theorem ctz_bits {x : Nat} (h0 : x ≠ 0) (h : x < 65536) : x.testBit (Lib.ctz 16 x) = true ∧ (∀ i < Lib.ctz 16 x, x.testBit i = false) := by
  unfold Lib.ctz
  rw [if_neg h0]
  obtain ⟨m, hm, hc⟩ := Lib.ctzFrom_spec 16 x (by omega) h
  generalize Lib.ctzFrom 16 x = c at *
  have e : x = 2 ^ c * (2 * m + 1) + 0 := by omega
  have key : ∀ i, x.testBit i = if i < c then (0 : Nat).testBit i else (2 * m + 1).testBit (i - c) := fun i => by
    conv => lhs; rw [e]
    exact Nat.testBit_two_pow_mul_add _ (Nat.two_pow_pos c) i
  constructor
  · rw [key, if_neg (by omega), Nat.sub_self]
    simp [Nat.testBit]
  · intro i hi
    rw [key, if_pos hi]
    simp
theorem first_out {n S : Nat} (hn : n ≤ 9) (hS : S < 2 ^ n) (hne : S ≠ 2 ^ n - 1) : Lib.ctz 16 (65535 - S) < n ∧ S.testBit (Lib.ctz 16 (65535 - S)) = false ∧ ∀ i < Lib.ctz 16 (65535 - S), S.testBit i = true := by
  have hS2 : S < 512 := Nat.lt_of_lt_of_le hS (Nat.pow_le_pow_right (by decide) hn)
  obtain ⟨h1, h2⟩ := ctz_bits (x := 65535 - S) (by omega) (by omega)
  generalize Lib.ctz 16 (65535 - S) = k at *
  rw [not_bit (by omega)] at h1
  simp only [Bool.and_eq_true, decide_eq_true_eq, Bool.not_eq_true'] at h1
  have h3 : ∀ i < k, S.testBit i = true := fun i hi => by
    have := h2 i hi
    rw [not_bit (by omega)] at this
    have hi16 : decide (i < 16) = true := decide_eq_true (by omega)
    rw [hi16] at this
    simpa using this
  refine ⟨?_, h1.2, h3⟩
  by_cases hk : k < n
  · exact hk
  · exfalso
    refine hne (Nat.eq_of_testBit_eq fun i => ?_)
    rw [Nat.testBit_two_pow_sub_one]
    by_cases hi : i < n
    · rw [h3 i (by omega), decide_eq_true hi]
    · rw [decide_eq_false hi]
      exact Nat.testBit_lt_two_pow (Nat.lt_of_lt_of_le hS (Nat.pow_le_pow_right (by decide) (by omega)))
theorem cpl16 {S : Nat} (h : S < 65536) : IntKind.u16.wrap (BitVec.ofInt IntKind.u16.bits (if IntKind.u16.signed then -1 else IntKind.u16.max) ^^^ BitVec.ofInt IntKind.u16.bits (S : Int)).toNat = ((65535 - S : Nat) : Int) := by
  show IntKind.u16.wrap (((BitVec.ofInt 16 65535 ^^^ BitVec.ofInt 16 (S : Int) : BitVec 16).toNat : Nat) : Int) = _
  have e1 : (BitVec.ofInt 16 65535 : BitVec 16) = BitVec.allOnes 16 := by decide
  have e2 : (BitVec.allOnes 16 ^^^ (BitVec.ofInt 16 (S : Int) : BitVec 16)).toNat = 65535 - S := by
    rw [BitVec.allOnes_xor, BitVec.toNat_not]
    have h3 : (BitVec.ofInt 16 (S : Int)).toNat = S := ofInt16 h
    omega
  rw [e1, e2]
  exact wrap16 (by omega)
end Go.Am
