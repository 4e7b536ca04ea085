/- Counts of exchanges by their types: numbers alone. -/
import Derived.Test.YtnfaljjlpphgiaaSv0
import Derived.Test.YtnfaljjlpphgiaaAmU
namespace Go.Proofs.Ytnfaljjlpphgiaa
open Go.Am
attribute [local irreducible] AW Outs Weak Lends Lend Sp aops atree aop1 Then Round InBlock Done

/-- The exchanges of the first k types for which p holds. -/
def tyS (R : List (List Int)) (p : List Int → Bool) : Nat → Int
  | 0 => 0
  | k + 1 => tyS R p k + if p (R.getD k []) then tyCnt (R.getD k []) else 0

theorem tyCnt_bd {K : List Int} (h : TyOk K) : 0 ≤ tyCnt K ∧ tyCnt K ≤ 479001600 := by
  obtain ⟨h1, h12, hx, h3, _⟩ := h
  have hs := sum_bd hx
  have hf := fac_le K.sum.toNat (by omega)
  have := tyDiv_bd hx (f := fac K.sum.toNat) (by omega) K.length (Nat.le_refl _)
  unfold tyCnt
  omega

theorem tyS_bd {R : List (List Int)} (hR : ∀ K ∈ R, TyOk K) (p : List Int → Bool) : ∀ k, k ≤ R.length → 0 ≤ tyS R p k ∧ tyS R p k ≤ k * 479001600
  | 0, _ => by simp [tyS]
  | k + 1, hk => by
    have h1 := tyS_bd hR p k (by omega)
    have h2 := tyCnt_bd (hR _ (getD_memL (show k < R.length by omega) : R.getD k [] ∈ R))
    rw [tyS]
    split <;> omega

theorem tyAll_ty0 : ∀ s < 13, 1 ≤ s → (tyAll s s).all (fun K => decide (TyOk K)) = true := by decide +kernel

theorem tyAll_ty {s : Nat} (h1 : 1 ≤ s) (h12 : s ≤ 12) : ∀ K ∈ tyAll s s, TyOk K := fun K hK => of_decide_eq_true (List.all_eq_true.1 (tyAll_ty0 s (by omega) h1) K hK)

def tySum (g : Nat) (p : List Int → Bool) : Int := tyS (tyAll g g) p (tyAll g g).length

def chLongN (g : Nat) (m : Int) : Int := tySum g fun K => decide (K.getD 0 0 ≤ m)

theorem tySum_bd {g : Nat} (h1 : 1 ≤ g) (h12 : g ≤ 12) (p : List Int → Bool) : 0 ≤ tySum g p ∧ tySum g p ≤ 36883123200 := by
  have h := tyS_bd (tyAll_ty h1 h12) p _ (Nat.le_refl _)
  have hl := tyAll_len (s := g) (m := g) h12 h12
  unfold tySum
  omega
end Go.Proofs.Ytnfaljjlpphgiaa
