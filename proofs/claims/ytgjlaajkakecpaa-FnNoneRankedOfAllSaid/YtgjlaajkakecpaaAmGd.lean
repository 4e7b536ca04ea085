/- The abstract machine: package-level variables whose cells are told. A seat may have a text of its own in this one's place. -/
import Derived.Test.YtgjlaajkakecpaaAmA
namespace Go.Am
/-- Functions of the seat's that are lent regions within an open order: none. -/
def ownF : List FuncId := []
/-- Are calls of function values lent regions of mine, too, in an open order? -/
def ownFV : Bool := false
/-- Regions of at most so many operations may be told by all of their orders. -/
def altMax : Nat := 9
/-- Their blocks: none. -/
def goodB : List Nat := []
/-- What the cells of such a block are. -/
def goodC : Nat → Array Value → Prop := fun _ _ => True
def GoodW (w : World) : Prop := ∀ b ∈ goodB, ∃ cur e fz, w.heap[b]? = some (.cells cur e fz) ∧ goodC b cur
theorem goodW_none {w : World} (h : goodB = []) : GoodW w := fun b hb => by rw [h] at hb; cases hb
/-- They are so at the beginning, and none of them is lent. -/
structure GoodB (w0 : World) (mu : Nat → Option Nat) : Prop where
  wld : GoodW w0
  off : ∀ r b, mu r = some b → b ∉ goodB
end Go.Am
