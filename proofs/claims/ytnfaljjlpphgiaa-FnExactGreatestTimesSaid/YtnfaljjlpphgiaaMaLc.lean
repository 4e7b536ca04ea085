/- The least number that lengths divide. No program. -/
import Derived.Test.YtnfaljjlpphgiaaMaI
namespace Go.Am
/-- The least number that the first k lengths divide. -/
def lcT (K : List Int) : Nat → Nat
  | 0 => 1
  | k + 1 => lcT K k / Nat.gcd (lcT K k) (K.getD k 0).toNat * (K.getD k 0).toNat
theorem lcT_bd {K : List Int} (h : ∀ x ∈ K, 1 ≤ x ∧ x ≤ 12) : ∀ k, k ≤ K.length → 1 ≤ lcT K k ∧ lcT K k ≤ 12 ^ k
  | 0, _ => by simp [lcT]
  | k + 1, hk => by
    obtain ⟨h1, h2⟩ := lcT_bd h k (by omega)
    have hx := h (K.getD k 0) (by rw [List.getD_eq_getElem?_getD, List.getElem?_eq_getElem (show k < K.length by omega)]; exact List.getElem_mem _)
    obtain ⟨n, hn⟩ := Int.eq_ofNat_of_zero_le (show 0 ≤ K.getD k 0 by omega)
    rw [lcT, hn, Int.toNat_natCast]
    have hd : 0 < lcT K k / Nat.gcd (lcT K k) n := Nat.div_pos (Nat.le_of_dvd (by omega) (Nat.gcd_dvd_left ..)) (Nat.gcd_pos_of_pos_left _ (by omega))
    refine ⟨Nat.mul_pos hd (by omega), ?_⟩
    rw [Nat.pow_succ]
    exact Nat.mul_le_mul (Nat.le_trans (Nat.div_le_self ..) h2) (by omega)
end Go.Am
