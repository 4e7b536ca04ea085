/- Contracts: who has a coat. -/
import Derived.Test.YtniajmlfdedbgaaSpB
namespace Go.Proofs.Ytniajmlfdedbgaa
open Go.Am
attribute [local irreducible] AW Outs Weak Lends Lend Sp aops atree aop1 Then Round InBlock Done

/-- Where a coat is, or -1. -/
def whoIs (L : List Int) (c : Int) : Int := if c ∈ L then (L.idxOf c : Int) else -1
theorem whoIs_at {L : List Int} {c : Int} {k : Nat} (h : k < L.length) (he : c ∉ L.take k) (hx : L.getD k 0 = c) : whoIs L c = k := by
  have hm : c ∈ L := hx ▸ getD_mem h
  have h1 : L.idxOf c = k := by
    conv => lhs; rw [← List.take_append_drop k L]
    rw [List.idxOf_append, if_neg he, List.drop_eq_getElem_cons h]
    have : L[k] = c := by simpa [h] using hx
    rw [this, List.idxOf_cons_self, List.length_take]
    omega
  rw [whoIs, if_pos hm, h1]

end Go.Proofs.Ytniajmlfdedbgaa
