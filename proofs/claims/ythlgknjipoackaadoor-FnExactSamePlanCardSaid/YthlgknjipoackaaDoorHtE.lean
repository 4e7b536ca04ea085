/- Contracts: what the laws' helpers do with plans. -/
import Derived.Test.YthlgknjipoackaaDoorHtC
import Derived.Test.YthlgknjipoackaaDoorAmHt
namespace Go.Proofs.YthlgknjipoackaaDoor
open Go.Am
attribute [local irreducible] AW Outs Weak Lends Lend Sp aops atree aop1 Then Round InBlock Done
attribute [local irreducible] SpM DoneM

/-- What toStringS has written behind k rounds. -/
def copT (G : List (List UInt8)) (k : Nat) : List (List UInt8) := G.take k ++ List.replicate (G.length - k) []
theorem copT_len (G : List (List UInt8)) (k : Nat) (h : k ≤ G.length) : (copT G k).length = G.length := by simp [copT]; omega
theorem copT_set (G : List (List UInt8)) (k : Nat) (h : k < G.length) : (copT G k).set k (G.getD k []) = copT G (k + 1) := by
  unfold copT
  have e : G.length - k = (G.length - (k + 1)) + 1 := by omega
  have e2 : k - (G.take k).length = 0 := by simp; omega
  rw [take_snoc G k [] h, e, List.replicate_succ, List.set_append_right _ _ (by simp; omega), e2]
  simp
theorem txs_set (G : List (List UInt8)) (k : Nat) (t : List UInt8) : (txs G).set k (str t) = txs (G.set k t) := by simp [txs, List.map_set]

/-- What is left of a bound. -/
def szT (G : List (List UInt8)) (n : Int) (k : Nat) : Int := n - G.length - ((G.take k).map fun t => (t.length : Int)).sum
def szB (G : List (List UInt8)) (n : Int) : Bool := decide (G.length ≤ n) && (List.range G.length).all fun k => decide (0 ≤ szT G n (k + 1))
theorem szT_succ (G : List (List UInt8)) (n : Int) (k : Nat) (h : k < G.length) : szT G n (k + 1) = szT G n k - (G.getD k []).length := by
  unfold szT
  rw [take_snoc G k [] h]
  simp [List.sum_append]
  omega
theorem szT_le (G : List (List UInt8)) (n : Int) (k : Nat) : szT G n k ≤ n := by
  unfold szT
  have : 0 ≤ ((G.take k).map fun t => (t.length : Int)).sum := by
    generalize G.take k = L
    induction L with
    | nil => simp
    | cons a l ih => rw [List.map_cons, List.sum_cons]; omega
  omega

end Go.Proofs.YthlgknjipoackaaDoor
