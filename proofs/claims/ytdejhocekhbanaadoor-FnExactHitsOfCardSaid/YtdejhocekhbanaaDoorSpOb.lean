/- Contracts: the side; the other board. -/
import Derived.Test.YtdejhocekhbanaaDoorSpRb
import Derived.Test.YtdejhocekhbanaaDoorSpBt
namespace Go.Proofs.YtdejhocekhbanaaDoor
open Go.Am
attribute [local irreducible] AW Outs Weak Lends Lend Sp aops atree aop1 Then Round InBlock Done

/-- A sign and the other one. -/
def swp (c : UInt8) : UInt8 := if c = 46 then 35 else if c = 35 then 46 else 47
theorem swp_row (fb : Nat → Nat → Bool) (i k : Nat) : (rowT fb i k).map swp = rowT (fun i j => !fb i j) i k := by
  simp only [rowT, List.map_map]
  apply List.map_congr_left
  intro j _
  show swp (sgn (fb i j)) = sgn (!fb i j)
  cases fb i j <;> rfl
theorem swp_bd (fb : Nat → Nat → Bool) (n k : Nat) : (bdT fb n k).map swp = bdT (fun i j => !fb i j) n k := by
  induction k with
  | zero => rfl
  | succ k ih =>
    simp only [bdT, List.map_append, ih, swp_row]
    congr 2
    split <;> rfl
/-- What OtherBoard tells. -/
def othB (B : List UInt8) : List UInt8 := if GoodBd B then B.map swp else []
def txR (B C : List UInt8) : AV := .tup [str C, .b (decide (GoodBd B))]

/-- A board that was read, as closures see it. -/
def capB (B : List UInt8) : AV := .rp [.i (sdB B : Nat), .rmp false (mkEs (plB B)) (plB B).length]
theorem capB_bears (B : List UInt8) : Bears [capB B] := bears_rpM (cs := [.i (sdB B : Nat), .rmp false (mkEs (plB B)) (plB B).length]) rfl rfl
theorem plB_lt {B : List UInt8} (h : GoodBd B) : ∀ p ∈ plB B, p.1 < 1000 ∧ p.2 < 1000 := by
  intro p hp
  have := mem_posP.1 hp
  have := good_sd h
  omega
theorem hasP_at (B : List UInt8) {i j : Nat} (hi : i < sdB B) (hj : j < sdB B) : hasP (plB B) (i : Nat) (j : Nat) = fbB B i j := by
  unfold plB
  rw [hasP_pos, decide_eq_true (by omega)]
  simp

end Go.Proofs.YtdejhocekhbanaaDoor
