/- Numbers read out of texts, and exchanges. No program. -/
import Derived.Test.YtinalepjmlilpaaDoorMaCm
import Derived.Lib.ItoaNum
import Derived.Lib.Join
import Derived.Lib.AtoiAll
namespace Go.Am
/-- What a row of digits spells behind a number; none: some byte is no digit. -/
def rdF : Int → List UInt8 → Option Int
  | a, [] => some a
  | a, c :: l => if 48 ≤ c.toNat ∧ c.toNat ≤ 57 then rdF (10 * a + ((c.toNat : Int) - 48)) l else none
/-- A number below a million as it is written, or -1. -/
def rd (w : List UInt8) : Int := if 1 ≤ w.length ∧ w.length ≤ 6 ∧ ¬ (w.getD 0 0 = 48 ∧ 1 < w.length) then (rdF 0 w).getD (-1) else -1
theorem rdF_ge : ∀ (l : List UInt8) (a v : Int), 0 ≤ a → rdF a l = some v → a * 10 ^ l.length ≤ v
  | [], a, v, _, h => by simp only [rdF] at h; cases h; simp
  | c :: l, a, v, ha, h => by
    simp only [rdF] at h
    split at h
    · rename_i hc
      have h1 := rdF_ge l _ v (by omega) h
      rw [List.length_cons, Int.pow_succ]
      have h2 : (0 : Int) ≤ 10 ^ l.length := Int.le_of_lt (Int.pow_pos (by decide))
      have h3 : 10 * a ≤ 10 * a + ((c.toNat : Int) - 48) := by omega
      have h4 : 10 * a * 10 ^ l.length ≤ (10 * a + ((c.toNat : Int) - 48)) * 10 ^ l.length := Int.mul_le_mul_of_nonneg_right h3 h2
      have h5 : a * (10 ^ l.length * 10) = 10 * a * 10 ^ l.length := by rw [Int.mul_comm (10 ^ l.length) 10, ← Int.mul_assoc, Int.mul_comm a 10]
      omega
    · cases h
theorem u8_of {c : UInt8} {n : Nat} (h : c.toNat = n) : c = UInt8.ofNat n := by rw [← h]; simp
theorem dec_of_lt (n : Nat) (h : n < 10) : Lib.decDigits n = [UInt8.ofNat (48 + n)] := by rw [Lib.decDigits, dif_pos h]
theorem dec_of_two (n : Nat) (h : 10 ≤ n) (h2 : n < 100) : Lib.decDigits n = [UInt8.ofNat (48 + n / 10), UInt8.ofNat (48 + n % 10)] := by
  rw [Lib.decDigits, dif_neg (by omega), dec_of_lt _ (by omega)]; rfl
/-- What is read as a number below 100 is written so. -/
theorem rd_dec {w : List UInt8} {x : Nat} (h : rd w = x) (hx : x < 100) : w = Lib.decDigits x := by
  unfold rd at h
  split at h
  · rename_i hc
    obtain ⟨h1, h2, h3⟩ := hc
    match w, h1, h2, h3, h with
    | [c], _, _, _, h =>
      simp only [rdF] at h
      split at h
      · rename_i hd
        simp only [Option.getD_some] at h
        have hx' : x = c.toNat - 48 := by omega
        rw [dec_of_lt x (by omega)]
        congr 1
        exact u8_of (by omega)
      · simp at h <;> omega
    | [c, d], _, _, h3, h =>
      simp only [rdF] at h
      split at h
      · split at h
        · rename_i hd he
          simp only [Option.getD_some] at h
          have hc0 : c.toNat ≠ 48 := fun e => h3 ⟨by simpa using u8_of e, by simp⟩
          have e1 : x / 10 = c.toNat - 48 := by omega
          have e2 : x % 10 = d.toNat - 48 := by omega
          rw [dec_of_two x (by omega) hx, e1, e2]
          rw [show 48 + (c.toNat - 48) = c.toNat by omega, show 48 + (d.toNat - 48) = d.toNat by omega]
          simp
        · simp at h <;> omega
      · simp at h <;> omega
    | c :: d :: e :: l, _, _, h3, h =>
      exfalso
      have hc0 : c.toNat ≠ 48 := fun e => h3 ⟨by simpa using u8_of e, by simp⟩
      cases hr : rdF 0 (c :: d :: e :: l) with
      | none => rw [hr] at h; simp at h <;> omega
      | some v =>
        rw [hr] at h
        simp only [Option.getD_some] at h
        rw [rdF] at hr
        split at hr
        · rename_i hd
          have hg := rdF_ge _ _ v (by omega) hr
          have h10 : (100 : Int) ≤ 10 ^ (d :: e :: l).length := by
            simp only [List.length_cons]
            have : (1 : Int) ≤ 10 ^ l.length := Int.pow_pos (by decide)
            rw [Int.pow_succ, Int.pow_succ]
            omega
          have h6 : 1 * (10 : Int) ^ (d :: e :: l).length ≤ (10 * 0 + ((c.toNat : Int) - 48)) * 10 ^ (d :: e :: l).length := Int.mul_le_mul_of_nonneg_right (by omega) (by omega)
          omega
        · cases hr
  · omega
theorem dec_rd : ∀ x < 12, rd (Lib.decDigits x) = (x : Nat) := by
  intro x hx
  by_cases h : x < 10
  · rw [dec_of_lt x h]; revert x; decide +kernel
  · rw [dec_of_two x (by omega) (by omega)]; revert x; decide +kernel
theorem dec_atoi : ∀ x < 12, Lib.atoiAll (Lib.decDigits x) = .ok (x : Nat) := by
  intro x hx
  by_cases h : x < 10
  · rw [dec_of_lt x h]; revert x; decide +kernel
  · rw [dec_of_two x (by omega) (by omega)]; revert x; decide +kernel
theorem dec_nocomma : ∀ x < 12, (44 : UInt8) ∉ Lib.decDigits x := by
  intro x hx
  by_cases h : x < 10
  · rw [dec_of_lt x h]; revert x; decide +kernel
  · rw [dec_of_two x (by omega) (by omega)]; revert x; decide +kernel
theorem join_joinB : ∀ l : List (List UInt8), Lib.join l [44] = joinB l
  | [] => rfl
  | x :: l => by rw [Lib.join_cons, joinB, Lib.joinTail, List.flatMap_def]; rfl
/-- Words without commas come back. -/
theorem split_join : ∀ l : List (List UInt8), l ≠ [] → (∀ w ∈ l, (44 : UInt8) ∉ w) → splitB (joinB l) = l
  | [], h, _ => absurd rfl h
  | [w], _, h => by
    have : joinB [w] = w := by simp [joinB]
    rw [this, splitB_one (h w (by simp))]
  | w :: v :: l, _, h => by
    rw [joinB_cons (by simp), splitB_cut (h w (by simp)), split_join (v :: l) (by simp) fun u hu => h u (List.mem_cons_of_mem _ hu)]
end Go.Am
