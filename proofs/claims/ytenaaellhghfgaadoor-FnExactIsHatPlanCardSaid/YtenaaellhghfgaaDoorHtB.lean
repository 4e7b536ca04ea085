/- Contracts: the greatest number of right guests at least; what a guest in a row guesses. -/
import Derived.Test.YtenaaellhghfgaaDoorHtA
namespace Go.Proofs.YtenaaellhghfgaaDoor
open Go.Am
attribute [local irreducible] AW Outs Weak Lends Lend Sp aops atree aop1 Then Round InBlock Done

/-- What HeardInRow asks for, and what it tells. -/
def HdOk (c s : Int) (A B : List UInt8) : Prop := (2 ≤ c ∧ c ≤ 3) ∧ (0 ≤ s ∧ s < c) ∧ (A.length ≤ 30 ∧ IsCol c.toNat A) ∧ B.length ≤ 30 ∧ IsCol c.toNat B
instance (c s : Int) (A B : List UInt8) : Decidable (HdOk c s A B) := inferInstanceAs (Decidable (_ ∧ _ ∧ _ ∧ _ ∧ _))
def hdN (c s : Int) (A B : List UInt8) : Int := if HdOk c s A B then (s - hsum A - hsum B) % c else 0
def hdR (c s : Int) (A B : List UInt8) : AV := .tup [.i (hdN c s A B), .b (decide (HdOk c s A B))]
theorem outs_hdno {s' : AS} {c s : Int} {A B : List UInt8} (h : ¬ HdOk c s A B) : Outs s' (.tup [.i 0, .b false]) (hdR c s A B) := by
  unfold hdR hdN
  rw [if_neg h, decide_eq_false h]
  exact outs_tup2 (outs_i rfl) (outs_b rfl)

end Go.Proofs.YtenaaellhghfgaaDoor
