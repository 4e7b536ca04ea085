/-
  No cell of these rows narrows 'for every input' (looked for: loops, veiled, ifaces, maps, wideKeys, modest, calm, conditions, laid).
  DERIVED. THE GIVEN ROWS OF THIS SEAT. 7 by the template 'for every input the law returns true; each argument reads behind the call as it read before'; 0 by the template 'total and deterministic' (their statements: YtfmlmcikobdbcaaTotals.lean).
  GIVEN WITH THE SEED: the statements are not yours to turn. If you find one false, say at which input.
  Laid BY PROGRAM, IN A SANDBOX (cutbox-rows.mjs): the forced cells as the released guide's own fill.sh prints them over the translation f87972a8413686e6… (all of the seat's roots in one cut). By AI agents, Wed Nov 11 2026. No macro, syntax, notation, axiom, sorry.
-/
import Derived.Test.YtfmlmcikobdbcaaChecked
import GoSem.Claim
import GoSem.ClaimJoined
import GoSem.ClaimMapViews
import Derived.JoinedTies
import Derived.KernelRfl
namespace Go.Proofs.Ytfmlmcikobdbcaa
/- THE CELL 'sum', in the pinned program and in every row, IS THE sha256 OF THE DUMP (.gsa) THAT YtfmlmcikobdbcaaProg.lean LOADS. Nothing in Lean hashes anything: it is a label: what it is worth is what the hold of that sum in a sandbox is worth. -/
noncomputable def Try.pinned : Pinned := { name := "ytfmlmcikobdbcaa", sum := "f87972a8413686e6a673ab986c7158c3b5ec49e1e53f836e3e1bc7f7dc08bd2b", checked := Try.checked }
namespace Rows
def none {H : Type} : Left H := { results := [], args := [] }

/-- 'laws.FnExactFirstGiving': WHATEVER THE INPUT: true; the input reads as it did. -/
def fnExactFirstGivingSpec : ChangeSpec := { name := "fnExactFirstGiving", fn := fun _ => fun
  | [d] => { results := [.lit (.bool true)], args := [d] }
  | _ => none }
def fnExactFirstGivingRow : OpenClaim := { program := "ytfmlmcikobdbcaa", sum := "f87972a8413686e6a673ab986c7158c3b5ec49e1e53f836e3e1bc7f7dc08bd2b", func := "loop.example/g01315/laws.FnExactFirstGiving", spec := "fnExactFirstGiving", unfollowed := true, recurses := true, apart := false }
def FnExactFirstGivingSaid : Prop := fnExactFirstGivingRow.holds Try.pinned (OpenSpec.ofChange fnExactFirstGivingSpec)

/-- ITS FALSE NEIGHBOUR: 'it returns false'. Refute it at one input. -/
def fnExactFirstGivingWrong : ChangeSpec := { name := "fnExactFirstGiving", fn := fun _ => fun
  | [d] => { results := [.lit (.bool false)], args := [d] }
  | _ => none }
def FnExactFirstGivingWrongFalsely : Prop := fnExactFirstGivingRow.holds Try.pinned (OpenSpec.ofChange fnExactFirstGivingWrong)

/-- 'laws.FnExactNextGiving': WHATEVER THE INPUT: true; the input reads as it did. -/
def fnExactNextGivingSpec : ChangeSpec := { name := "fnExactNextGiving", fn := fun _ => fun
  | [d1, d2] => { results := [.lit (.bool true)], args := [d1, d2] }
  | _ => none }
def fnExactNextGivingRow : OpenClaim := { program := "ytfmlmcikobdbcaa", sum := "f87972a8413686e6a673ab986c7158c3b5ec49e1e53f836e3e1bc7f7dc08bd2b", func := "loop.example/g01315/laws.FnExactNextGiving", spec := "fnExactNextGiving", unfollowed := true, recurses := true, apart := false }
def FnExactNextGivingSaid : Prop := fnExactNextGivingRow.holds Try.pinned (OpenSpec.ofChange fnExactNextGivingSpec)

/-- ITS FALSE NEIGHBOUR: 'it returns false'. Refute it at one input. -/
def fnExactNextGivingWrong : ChangeSpec := { name := "fnExactNextGiving", fn := fun _ => fun
  | [d1, d2] => { results := [.lit (.bool false)], args := [d1, d2] }
  | _ => none }
def FnExactNextGivingWrongFalsely : Prop := fnExactNextGivingRow.holds Try.pinned (OpenSpec.ofChange fnExactNextGivingWrong)

/-- 'laws.FnExactFirstRing': WHATEVER THE INPUT: true; the input reads as it did. -/
def fnExactFirstRingSpec : ChangeSpec := { name := "fnExactFirstRing", fn := fun _ => fun
  | [d] => { results := [.lit (.bool true)], args := [d] }
  | _ => none }
def fnExactFirstRingRow : OpenClaim := { program := "ytfmlmcikobdbcaa", sum := "f87972a8413686e6a673ab986c7158c3b5ec49e1e53f836e3e1bc7f7dc08bd2b", func := "loop.example/g01315/laws.FnExactFirstRing", spec := "fnExactFirstRing", unfollowed := true, recurses := true, apart := false }
def FnExactFirstRingSaid : Prop := fnExactFirstRingRow.holds Try.pinned (OpenSpec.ofChange fnExactFirstRingSpec)

/-- ITS FALSE NEIGHBOUR: 'it returns false'. Refute it at one input. -/
def fnExactFirstRingWrong : ChangeSpec := { name := "fnExactFirstRing", fn := fun _ => fun
  | [d] => { results := [.lit (.bool false)], args := [d] }
  | _ => none }
def FnExactFirstRingWrongFalsely : Prop := fnExactFirstRingRow.holds Try.pinned (OpenSpec.ofChange fnExactFirstRingWrong)

/-- 'laws.FnExactCountGivings': WHATEVER THE INPUT: true; the input reads as it did. -/
def fnExactCountGivingsSpec : ChangeSpec := { name := "fnExactCountGivings", fn := fun _ => fun
  | [d] => { results := [.lit (.bool true)], args := [d] }
  | _ => none }
def fnExactCountGivingsRow : OpenClaim := { program := "ytfmlmcikobdbcaa", sum := "f87972a8413686e6a673ab986c7158c3b5ec49e1e53f836e3e1bc7f7dc08bd2b", func := "loop.example/g01315/laws.FnExactCountGivings", spec := "fnExactCountGivings", recurses := true, apart := false }
def FnExactCountGivingsSaid : Prop := fnExactCountGivingsRow.holds Try.pinned (OpenSpec.ofChange fnExactCountGivingsSpec)

/-- ITS FALSE NEIGHBOUR: 'it returns false'. Refute it at one input. -/
def fnExactCountGivingsWrong : ChangeSpec := { name := "fnExactCountGivings", fn := fun _ => fun
  | [d] => { results := [.lit (.bool false)], args := [d] }
  | _ => none }
def FnExactCountGivingsWrongFalsely : Prop := fnExactCountGivingsRow.holds Try.pinned (OpenSpec.ofChange fnExactCountGivingsWrong)

/-- 'laws.FnExactGivingOfRank': WHATEVER THE INPUT: true; the input reads as it did. -/
def fnExactGivingOfRankSpec : ChangeSpec := { name := "fnExactGivingOfRank", fn := fun _ => fun
  | [d1, d2] => { results := [.lit (.bool true)], args := [d1, d2] }
  | _ => none }
def fnExactGivingOfRankRow : OpenClaim := { program := "ytfmlmcikobdbcaa", sum := "f87972a8413686e6a673ab986c7158c3b5ec49e1e53f836e3e1bc7f7dc08bd2b", func := "loop.example/g01315/laws.FnExactGivingOfRank", spec := "fnExactGivingOfRank", recurses := true, apart := false }
def FnExactGivingOfRankSaid : Prop := fnExactGivingOfRankRow.holds Try.pinned (OpenSpec.ofChange fnExactGivingOfRankSpec)

/-- ITS FALSE NEIGHBOUR: 'it returns false'. Refute it at one input. -/
def fnExactGivingOfRankWrong : ChangeSpec := { name := "fnExactGivingOfRank", fn := fun _ => fun
  | [d1, d2] => { results := [.lit (.bool false)], args := [d1, d2] }
  | _ => none }
def FnExactGivingOfRankWrongFalsely : Prop := fnExactGivingOfRankRow.holds Try.pinned (OpenSpec.ofChange fnExactGivingOfRankWrong)

/-- 'laws.FnExactRankOfGiving': WHATEVER THE INPUT: true; the input reads as it did. -/
def fnExactRankOfGivingSpec : ChangeSpec := { name := "fnExactRankOfGiving", fn := fun _ => fun
  | [d1, d2] => { results := [.lit (.bool true)], args := [d1, d2] }
  | _ => none }
def fnExactRankOfGivingRow : OpenClaim := { program := "ytfmlmcikobdbcaa", sum := "f87972a8413686e6a673ab986c7158c3b5ec49e1e53f836e3e1bc7f7dc08bd2b", func := "loop.example/g01315/laws.FnExactRankOfGiving", spec := "fnExactRankOfGiving", recurses := true, apart := false }
def FnExactRankOfGivingSaid : Prop := fnExactRankOfGivingRow.holds Try.pinned (OpenSpec.ofChange fnExactRankOfGivingSpec)

/-- ITS FALSE NEIGHBOUR: 'it returns false'. Refute it at one input. -/
def fnExactRankOfGivingWrong : ChangeSpec := { name := "fnExactRankOfGiving", fn := fun _ => fun
  | [d1, d2] => { results := [.lit (.bool false)], args := [d1, d2] }
  | _ => none }
def FnExactRankOfGivingWrongFalsely : Prop := fnExactRankOfGivingRow.holds Try.pinned (OpenSpec.ofChange fnExactRankOfGivingWrong)

/-- 'laws.FnExactCountOwn': WHATEVER THE INPUT: true; the input reads as it did. -/
def fnExactCountOwnSpec : ChangeSpec := { name := "fnExactCountOwn", fn := fun _ => fun
  | [d1, d2] => { results := [.lit (.bool true)], args := [d1, d2] }
  | _ => none }
def fnExactCountOwnRow : OpenClaim := { program := "ytfmlmcikobdbcaa", sum := "f87972a8413686e6a673ab986c7158c3b5ec49e1e53f836e3e1bc7f7dc08bd2b", func := "loop.example/g01315/laws.FnExactCountOwn", spec := "fnExactCountOwn", apart := false }
def FnExactCountOwnSaid : Prop := fnExactCountOwnRow.holds Try.pinned (OpenSpec.ofChange fnExactCountOwnSpec)

/-- ITS FALSE NEIGHBOUR: 'it returns false'. Refute it at one input. -/
def fnExactCountOwnWrong : ChangeSpec := { name := "fnExactCountOwn", fn := fun _ => fun
  | [d1, d2] => { results := [.lit (.bool false)], args := [d1, d2] }
  | _ => none }
def FnExactCountOwnWrongFalsely : Prop := fnExactCountOwnRow.holds Try.pinned (OpenSpec.ofChange fnExactCountOwnWrong)

/- THE SECOND FORM. 'bulk': how many values and letters a reading holds, each counted each time it is reached (what is shared counts as often as it is met; a slice's spare places count too). A statement '..UptoSaid' is the law's where the arguments, and the package variables that the reading takes, are together of bulk at most 1048576: NARROWER than '..Said'. Prove '..Said' where nothing that the law and all that it calls make is longer than what came in: it says more and counts as full. Else prove '..UptoSaid'. A law counts once. -/
mutual
def uptoBulk {H : Type} : DataW H → Nat
  | .lit (.string bytes) => bytes.length + 1
  | .lit _ => 1
  | .nil => 1
  | .ptr d => uptoBulk d + 1
  | .slice elems spare => uptoBulkAll elems + uptoBulkAll spare + 1
  | .agg parts => uptoBulkAll parts + 1
  | .iface _ d => uptoBulk d + 1
  | .map entries => uptoBulkEntries entries + 1
  | .held _ => 1
def uptoBulkAll {H : Type} : List (DataW H) → Nat
  | [] => 0
  | d :: r => uptoBulk d + uptoBulkAll r
def uptoBulkEntries {H : Type} : List (Lit × DataW H) → Nat
  | [] => 0
  | x :: r => uptoBulkEntry x + uptoBulkEntries r
def uptoBulkEntry {H : Type} : Lit × DataW H → Nat
  | (.string bytes, d) => bytes.length + uptoBulk d + 1
  | (_, d) => uptoBulk d + 1
 end
def uptoSmall : (H : Type) → List (DataW H) → Bool := fun _ ds => decide (uptoBulkAll ds ≤ 1048576)
def OpenSpec.upto (s : _root_.Go.ChangeSpec) : _root_.Go.OpenSpec := { _root_.Go.OpenSpec.ofChange s with cond := some uptoSmall }

/-- 'laws.FnExactFirstGiving', WHERE WHAT IT READS IS OF BULK AT MOST 1048576: true; the input reads as it did. -/
def fnExactFirstGivingUptoRow : OpenClaim := { program := "ytfmlmcikobdbcaa", sum := "f87972a8413686e6a673ab986c7158c3b5ec49e1e53f836e3e1bc7f7dc08bd2b", func := "loop.example/g01315/laws.FnExactFirstGiving", spec := "fnExactFirstGiving", unfollowed := true, recurses := true, apart := false, narrowed := true }
def FnExactFirstGivingUptoSaid : Prop := fnExactFirstGivingUptoRow.holds Try.pinned (OpenSpec.upto fnExactFirstGivingSpec)

/-- 'laws.FnExactNextGiving', WHERE WHAT IT READS IS OF BULK AT MOST 1048576: true; the input reads as it did. -/
def fnExactNextGivingUptoRow : OpenClaim := { program := "ytfmlmcikobdbcaa", sum := "f87972a8413686e6a673ab986c7158c3b5ec49e1e53f836e3e1bc7f7dc08bd2b", func := "loop.example/g01315/laws.FnExactNextGiving", spec := "fnExactNextGiving", unfollowed := true, recurses := true, apart := false, narrowed := true }
def FnExactNextGivingUptoSaid : Prop := fnExactNextGivingUptoRow.holds Try.pinned (OpenSpec.upto fnExactNextGivingSpec)

/-- 'laws.FnExactFirstRing', WHERE WHAT IT READS IS OF BULK AT MOST 1048576: true; the input reads as it did. -/
def fnExactFirstRingUptoRow : OpenClaim := { program := "ytfmlmcikobdbcaa", sum := "f87972a8413686e6a673ab986c7158c3b5ec49e1e53f836e3e1bc7f7dc08bd2b", func := "loop.example/g01315/laws.FnExactFirstRing", spec := "fnExactFirstRing", unfollowed := true, recurses := true, apart := false, narrowed := true }
def FnExactFirstRingUptoSaid : Prop := fnExactFirstRingUptoRow.holds Try.pinned (OpenSpec.upto fnExactFirstRingSpec)

/-- 'laws.FnExactCountGivings', WHERE WHAT IT READS IS OF BULK AT MOST 1048576: true; the input reads as it did. -/
def fnExactCountGivingsUptoRow : OpenClaim := { program := "ytfmlmcikobdbcaa", sum := "f87972a8413686e6a673ab986c7158c3b5ec49e1e53f836e3e1bc7f7dc08bd2b", func := "loop.example/g01315/laws.FnExactCountGivings", spec := "fnExactCountGivings", recurses := true, apart := false, narrowed := true }
def FnExactCountGivingsUptoSaid : Prop := fnExactCountGivingsUptoRow.holds Try.pinned (OpenSpec.upto fnExactCountGivingsSpec)

/-- 'laws.FnExactGivingOfRank', WHERE WHAT IT READS IS OF BULK AT MOST 1048576: true; the input reads as it did. -/
def fnExactGivingOfRankUptoRow : OpenClaim := { program := "ytfmlmcikobdbcaa", sum := "f87972a8413686e6a673ab986c7158c3b5ec49e1e53f836e3e1bc7f7dc08bd2b", func := "loop.example/g01315/laws.FnExactGivingOfRank", spec := "fnExactGivingOfRank", recurses := true, apart := false, narrowed := true }
def FnExactGivingOfRankUptoSaid : Prop := fnExactGivingOfRankUptoRow.holds Try.pinned (OpenSpec.upto fnExactGivingOfRankSpec)

/-- 'laws.FnExactRankOfGiving', WHERE WHAT IT READS IS OF BULK AT MOST 1048576: true; the input reads as it did. -/
def fnExactRankOfGivingUptoRow : OpenClaim := { program := "ytfmlmcikobdbcaa", sum := "f87972a8413686e6a673ab986c7158c3b5ec49e1e53f836e3e1bc7f7dc08bd2b", func := "loop.example/g01315/laws.FnExactRankOfGiving", spec := "fnExactRankOfGiving", recurses := true, apart := false, narrowed := true }
def FnExactRankOfGivingUptoSaid : Prop := fnExactRankOfGivingUptoRow.holds Try.pinned (OpenSpec.upto fnExactRankOfGivingSpec)

/-- 'laws.FnExactCountOwn', WHERE WHAT IT READS IS OF BULK AT MOST 1048576: true; the input reads as it did. -/
def fnExactCountOwnUptoRow : OpenClaim := { program := "ytfmlmcikobdbcaa", sum := "f87972a8413686e6a673ab986c7158c3b5ec49e1e53f836e3e1bc7f7dc08bd2b", func := "loop.example/g01315/laws.FnExactCountOwn", spec := "fnExactCountOwn", apart := false, narrowed := true }
def FnExactCountOwnUptoSaid : Prop := fnExactCountOwnUptoRow.holds Try.pinned (OpenSpec.upto fnExactCountOwnSpec)

end Rows
end Go.Proofs.Ytfmlmcikobdbcaa
