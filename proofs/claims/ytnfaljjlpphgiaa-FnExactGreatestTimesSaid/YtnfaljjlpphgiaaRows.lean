/-
  No cell of these rows narrows 'for every input' (looked for: loops, veiled, ifaces, maps, wideKeys, modest, calm, conditions, laid).
  DERIVED. THE GIVEN ROWS OF THIS SEAT. 8 by the template 'for every input the law returns true; each argument reads behind the call as it read before'; 0 by the template 'total and deterministic' (their statements: YtnfaljjlpphgiaaTotals.lean).
  GIVEN WITH THE SEED: the statements are not yours to turn. If you find one false, say at which input.
  Laid BY PROGRAM, IN A SANDBOX (cutbox-rows.mjs): the forced cells as the released guide's own fill.sh prints them over the translation 01e8b862e8b68aeb… (all of the seat's roots in one cut). By AI agents, Wed Nov 11 2026. No macro, syntax, notation, axiom, sorry.
-/
import Derived.Test.YtnfaljjlpphgiaaChecked
import GoSem.Claim
import GoSem.ClaimJoined
import GoSem.ClaimMapViews
import Derived.JoinedTies
import Derived.KernelRfl
namespace Go.Proofs.Ytnfaljjlpphgiaa
/- THE CELL 'sum', in the pinned program and in every row, IS THE sha256 OF THE DUMP (.gsa) THAT YtnfaljjlpphgiaaProg.lean LOADS. Nothing in Lean hashes anything: it is a label: what it is worth is what the hold of that sum in a sandbox is worth. -/
noncomputable def Try.pinned : Pinned := { name := "ytnfaljjlpphgiaa", sum := "01e8b862e8b68aeb394098071f265f8e88dd6fe0c274aa07f0ebbe58d766a2dc", checked := Try.checked }
namespace Rows
def none {H : Type} : Left H := { results := [], args := [] }

/-- 'laws.FnExactCountType': WHATEVER THE INPUT: true; the input reads as it did. -/
def fnExactCountTypeSpec : ChangeSpec := { name := "fnExactCountType", fn := fun _ => fun
  | [d] => { results := [.lit (.bool true)], args := [d] }
  | _ => none }
def fnExactCountTypeRow : OpenClaim := { program := "ytnfaljjlpphgiaa", sum := "01e8b862e8b68aeb394098071f265f8e88dd6fe0c274aa07f0ebbe58d766a2dc", func := "loop.example/g01315/laws.FnExactCountType", spec := "fnExactCountType", apart := false }
def FnExactCountTypeSaid : Prop := fnExactCountTypeRow.holds Try.pinned (OpenSpec.ofChange fnExactCountTypeSpec)

/-- ITS FALSE NEIGHBOUR: 'it returns false'. Refute it at one input. -/
def fnExactCountTypeWrong : ChangeSpec := { name := "fnExactCountType", fn := fun _ => fun
  | [d] => { results := [.lit (.bool false)], args := [d] }
  | _ => none }
def FnExactCountTypeWrongFalsely : Prop := fnExactCountTypeRow.holds Try.pinned (OpenSpec.ofChange fnExactCountTypeWrong)

/-- 'laws.FnExactTypesOf': WHATEVER THE INPUT: true; the input reads as it did. -/
def fnExactTypesOfSpec : ChangeSpec := { name := "fnExactTypesOf", fn := fun _ => fun
  | [d] => { results := [.lit (.bool true)], args := [d] }
  | _ => none }
def fnExactTypesOfRow : OpenClaim := { program := "ytnfaljjlpphgiaa", sum := "01e8b862e8b68aeb394098071f265f8e88dd6fe0c274aa07f0ebbe58d766a2dc", func := "loop.example/g01315/laws.FnExactTypesOf", spec := "fnExactTypesOf", unfollowed := true, recurses := true, apart := false }
def FnExactTypesOfSaid : Prop := fnExactTypesOfRow.holds Try.pinned (OpenSpec.ofChange fnExactTypesOfSpec)

/-- ITS FALSE NEIGHBOUR: 'it returns false'. Refute it at one input. -/
def fnExactTypesOfWrong : ChangeSpec := { name := "fnExactTypesOf", fn := fun _ => fun
  | [d] => { results := [.lit (.bool false)], args := [d] }
  | _ => none }
def FnExactTypesOfWrongFalsely : Prop := fnExactTypesOfRow.holds Try.pinned (OpenSpec.ofChange fnExactTypesOfWrong)

/-- 'laws.FnExactCountByChains': WHATEVER THE INPUT: true; the input reads as it did. -/
def fnExactCountByChainsSpec : ChangeSpec := { name := "fnExactCountByChains", fn := fun _ => fun
  | [d1, d2] => { results := [.lit (.bool true)], args := [d1, d2] }
  | _ => none }
def fnExactCountByChainsRow : OpenClaim := { program := "ytnfaljjlpphgiaa", sum := "01e8b862e8b68aeb394098071f265f8e88dd6fe0c274aa07f0ebbe58d766a2dc", func := "loop.example/g01315/laws.FnExactCountByChains", spec := "fnExactCountByChains", unfollowed := true, recurses := true, apart := false }
def FnExactCountByChainsSaid : Prop := fnExactCountByChainsRow.holds Try.pinned (OpenSpec.ofChange fnExactCountByChainsSpec)

/-- ITS FALSE NEIGHBOUR: 'it returns false'. Refute it at one input. -/
def fnExactCountByChainsWrong : ChangeSpec := { name := "fnExactCountByChains", fn := fun _ => fun
  | [d1, d2] => { results := [.lit (.bool false)], args := [d1, d2] }
  | _ => none }
def FnExactCountByChainsWrongFalsely : Prop := fnExactCountByChainsRow.holds Try.pinned (OpenSpec.ofChange fnExactCountByChainsWrong)

/-- 'laws.FnExactCountLongest': WHATEVER THE INPUT: true; the input reads as it did. -/
def fnExactCountLongestSpec : ChangeSpec := { name := "fnExactCountLongest", fn := fun _ => fun
  | [d1, d2] => { results := [.lit (.bool true)], args := [d1, d2] }
  | _ => none }
def fnExactCountLongestRow : OpenClaim := { program := "ytnfaljjlpphgiaa", sum := "01e8b862e8b68aeb394098071f265f8e88dd6fe0c274aa07f0ebbe58d766a2dc", func := "loop.example/g01315/laws.FnExactCountLongest", spec := "fnExactCountLongest", unfollowed := true, recurses := true, apart := false }
def FnExactCountLongestSaid : Prop := fnExactCountLongestRow.holds Try.pinned (OpenSpec.ofChange fnExactCountLongestSpec)

/-- ITS FALSE NEIGHBOUR: 'it returns false'. Refute it at one input. -/
def fnExactCountLongestWrong : ChangeSpec := { name := "fnExactCountLongest", fn := fun _ => fun
  | [d1, d2] => { results := [.lit (.bool false)], args := [d1, d2] }
  | _ => none }
def FnExactCountLongestWrongFalsely : Prop := fnExactCountLongestRow.holds Try.pinned (OpenSpec.ofChange fnExactCountLongestWrong)

/-- 'laws.FnExactCountShortest': WHATEVER THE INPUT: true; the input reads as it did. -/
def fnExactCountShortestSpec : ChangeSpec := { name := "fnExactCountShortest", fn := fun _ => fun
  | [d1, d2] => { results := [.lit (.bool true)], args := [d1, d2] }
  | _ => none }
def fnExactCountShortestRow : OpenClaim := { program := "ytnfaljjlpphgiaa", sum := "01e8b862e8b68aeb394098071f265f8e88dd6fe0c274aa07f0ebbe58d766a2dc", func := "loop.example/g01315/laws.FnExactCountShortest", spec := "fnExactCountShortest", unfollowed := true, recurses := true, apart := false }
def FnExactCountShortestSaid : Prop := fnExactCountShortestRow.holds Try.pinned (OpenSpec.ofChange fnExactCountShortestSpec)

/-- ITS FALSE NEIGHBOUR: 'it returns false'. Refute it at one input. -/
def fnExactCountShortestWrong : ChangeSpec := { name := "fnExactCountShortest", fn := fun _ => fun
  | [d1, d2] => { results := [.lit (.bool false)], args := [d1, d2] }
  | _ => none }
def FnExactCountShortestWrongFalsely : Prop := fnExactCountShortestRow.holds Try.pinned (OpenSpec.ofChange fnExactCountShortestWrong)

/-- 'laws.FnExactCountByTimes': WHATEVER THE INPUT: true; the input reads as it did. -/
def fnExactCountByTimesSpec : ChangeSpec := { name := "fnExactCountByTimes", fn := fun _ => fun
  | [d1, d2] => { results := [.lit (.bool true)], args := [d1, d2] }
  | _ => none }
def fnExactCountByTimesRow : OpenClaim := { program := "ytnfaljjlpphgiaa", sum := "01e8b862e8b68aeb394098071f265f8e88dd6fe0c274aa07f0ebbe58d766a2dc", func := "loop.example/g01315/laws.FnExactCountByTimes", spec := "fnExactCountByTimes", unfollowed := true, recurses := true, apart := false }
def FnExactCountByTimesSaid : Prop := fnExactCountByTimesRow.holds Try.pinned (OpenSpec.ofChange fnExactCountByTimesSpec)

/-- ITS FALSE NEIGHBOUR: 'it returns false'. Refute it at one input. -/
def fnExactCountByTimesWrong : ChangeSpec := { name := "fnExactCountByTimes", fn := fun _ => fun
  | [d1, d2] => { results := [.lit (.bool false)], args := [d1, d2] }
  | _ => none }
def FnExactCountByTimesWrongFalsely : Prop := fnExactCountByTimesRow.holds Try.pinned (OpenSpec.ofChange fnExactCountByTimesWrong)

/-- 'laws.FnExactTimesOfType': WHATEVER THE INPUT: true; the input reads as it did. -/
def fnExactTimesOfTypeSpec : ChangeSpec := { name := "fnExactTimesOfType", fn := fun _ => fun
  | [d] => { results := [.lit (.bool true)], args := [d] }
  | _ => none }
def fnExactTimesOfTypeRow : OpenClaim := { program := "ytnfaljjlpphgiaa", sum := "01e8b862e8b68aeb394098071f265f8e88dd6fe0c274aa07f0ebbe58d766a2dc", func := "loop.example/g01315/laws.FnExactTimesOfType", spec := "fnExactTimesOfType", apart := false }
def FnExactTimesOfTypeSaid : Prop := fnExactTimesOfTypeRow.holds Try.pinned (OpenSpec.ofChange fnExactTimesOfTypeSpec)

/-- ITS FALSE NEIGHBOUR: 'it returns false'. Refute it at one input. -/
def fnExactTimesOfTypeWrong : ChangeSpec := { name := "fnExactTimesOfType", fn := fun _ => fun
  | [d] => { results := [.lit (.bool false)], args := [d] }
  | _ => none }
def FnExactTimesOfTypeWrongFalsely : Prop := fnExactTimesOfTypeRow.holds Try.pinned (OpenSpec.ofChange fnExactTimesOfTypeWrong)

/-- 'laws.FnExactGreatestTimes': WHATEVER THE INPUT: true; the input reads as it did. -/
def fnExactGreatestTimesSpec : ChangeSpec := { name := "fnExactGreatestTimes", fn := fun _ => fun
  | [d] => { results := [.lit (.bool true)], args := [d] }
  | _ => none }
def fnExactGreatestTimesRow : OpenClaim := { program := "ytnfaljjlpphgiaa", sum := "01e8b862e8b68aeb394098071f265f8e88dd6fe0c274aa07f0ebbe58d766a2dc", func := "loop.example/g01315/laws.FnExactGreatestTimes", spec := "fnExactGreatestTimes", unfollowed := true, recurses := true, apart := false }
def FnExactGreatestTimesSaid : Prop := fnExactGreatestTimesRow.holds Try.pinned (OpenSpec.ofChange fnExactGreatestTimesSpec)

/-- ITS FALSE NEIGHBOUR: 'it returns false'. Refute it at one input. -/
def fnExactGreatestTimesWrong : ChangeSpec := { name := "fnExactGreatestTimes", fn := fun _ => fun
  | [d] => { results := [.lit (.bool false)], args := [d] }
  | _ => none }
def FnExactGreatestTimesWrongFalsely : Prop := fnExactGreatestTimesRow.holds Try.pinned (OpenSpec.ofChange fnExactGreatestTimesWrong)

/- THE SECOND FORM. 'bulk': how many values and letters a reading holds, each counted each time it is reached (what is shared counts as often as it is met; a slice's spare places count too). A statement '..UptoSaid' is the law's where the arguments, and the package variables that the reading takes, are together of bulk at most 1048576: NARROWER than '..Said'. Prove '..Said' where nothing that the law and all that it calls make is longer than what came in: it says more and counts as full. Else prove '..UptoSaid'. A law counts once. -/
mutual
def uptoBulk {H : Type} : DataW H → Nat
  | .lit (.string bytes) => bytes.length + 1
  | .lit _ => 1
  | .nil => 1
  | .ptr d => uptoBulk d + 1
  | .slice elems spare => uptoBulkAll elems + uptoBulkAll spare + 1
  | .agg parts => uptoBulkAll parts + 1
  | .iface _ d => uptoBulk d + 1
  | .map entries => uptoBulkEntries entries + 1
  | .held _ => 1
def uptoBulkAll {H : Type} : List (DataW H) → Nat
  | [] => 0
  | d :: r => uptoBulk d + uptoBulkAll r
def uptoBulkEntries {H : Type} : List (Lit × DataW H) → Nat
  | [] => 0
  | x :: r => uptoBulkEntry x + uptoBulkEntries r
def uptoBulkEntry {H : Type} : Lit × DataW H → Nat
  | (.string bytes, d) => bytes.length + uptoBulk d + 1
  | (_, d) => uptoBulk d + 1
 end
def uptoSmall : (H : Type) → List (DataW H) → Bool := fun _ ds => decide (uptoBulkAll ds ≤ 1048576)
def OpenSpec.upto (s : _root_.Go.ChangeSpec) : _root_.Go.OpenSpec := { _root_.Go.OpenSpec.ofChange s with cond := some uptoSmall }

/-- 'laws.FnExactCountType', WHERE WHAT IT READS IS OF BULK AT MOST 1048576: true; the input reads as it did. -/
def fnExactCountTypeUptoRow : OpenClaim := { program := "ytnfaljjlpphgiaa", sum := "01e8b862e8b68aeb394098071f265f8e88dd6fe0c274aa07f0ebbe58d766a2dc", func := "loop.example/g01315/laws.FnExactCountType", spec := "fnExactCountType", apart := false, narrowed := true }
def FnExactCountTypeUptoSaid : Prop := fnExactCountTypeUptoRow.holds Try.pinned (OpenSpec.upto fnExactCountTypeSpec)

/-- 'laws.FnExactTypesOf', WHERE WHAT IT READS IS OF BULK AT MOST 1048576: true; the input reads as it did. -/
def fnExactTypesOfUptoRow : OpenClaim := { program := "ytnfaljjlpphgiaa", sum := "01e8b862e8b68aeb394098071f265f8e88dd6fe0c274aa07f0ebbe58d766a2dc", func := "loop.example/g01315/laws.FnExactTypesOf", spec := "fnExactTypesOf", unfollowed := true, recurses := true, apart := false, narrowed := true }
def FnExactTypesOfUptoSaid : Prop := fnExactTypesOfUptoRow.holds Try.pinned (OpenSpec.upto fnExactTypesOfSpec)

/-- 'laws.FnExactCountByChains', WHERE WHAT IT READS IS OF BULK AT MOST 1048576: true; the input reads as it did. -/
def fnExactCountByChainsUptoRow : OpenClaim := { program := "ytnfaljjlpphgiaa", sum := "01e8b862e8b68aeb394098071f265f8e88dd6fe0c274aa07f0ebbe58d766a2dc", func := "loop.example/g01315/laws.FnExactCountByChains", spec := "fnExactCountByChains", unfollowed := true, recurses := true, apart := false, narrowed := true }
def FnExactCountByChainsUptoSaid : Prop := fnExactCountByChainsUptoRow.holds Try.pinned (OpenSpec.upto fnExactCountByChainsSpec)

/-- 'laws.FnExactCountLongest', WHERE WHAT IT READS IS OF BULK AT MOST 1048576: true; the input reads as it did. -/
def fnExactCountLongestUptoRow : OpenClaim := { program := "ytnfaljjlpphgiaa", sum := "01e8b862e8b68aeb394098071f265f8e88dd6fe0c274aa07f0ebbe58d766a2dc", func := "loop.example/g01315/laws.FnExactCountLongest", spec := "fnExactCountLongest", unfollowed := true, recurses := true, apart := false, narrowed := true }
def FnExactCountLongestUptoSaid : Prop := fnExactCountLongestUptoRow.holds Try.pinned (OpenSpec.upto fnExactCountLongestSpec)

/-- 'laws.FnExactCountShortest', WHERE WHAT IT READS IS OF BULK AT MOST 1048576: true; the input reads as it did. -/
def fnExactCountShortestUptoRow : OpenClaim := { program := "ytnfaljjlpphgiaa", sum := "01e8b862e8b68aeb394098071f265f8e88dd6fe0c274aa07f0ebbe58d766a2dc", func := "loop.example/g01315/laws.FnExactCountShortest", spec := "fnExactCountShortest", unfollowed := true, recurses := true, apart := false, narrowed := true }
def FnExactCountShortestUptoSaid : Prop := fnExactCountShortestUptoRow.holds Try.pinned (OpenSpec.upto fnExactCountShortestSpec)

/-- 'laws.FnExactCountByTimes', WHERE WHAT IT READS IS OF BULK AT MOST 1048576: true; the input reads as it did. -/
def fnExactCountByTimesUptoRow : OpenClaim := { program := "ytnfaljjlpphgiaa", sum := "01e8b862e8b68aeb394098071f265f8e88dd6fe0c274aa07f0ebbe58d766a2dc", func := "loop.example/g01315/laws.FnExactCountByTimes", spec := "fnExactCountByTimes", unfollowed := true, recurses := true, apart := false, narrowed := true }
def FnExactCountByTimesUptoSaid : Prop := fnExactCountByTimesUptoRow.holds Try.pinned (OpenSpec.upto fnExactCountByTimesSpec)

/-- 'laws.FnExactTimesOfType', WHERE WHAT IT READS IS OF BULK AT MOST 1048576: true; the input reads as it did. -/
def fnExactTimesOfTypeUptoRow : OpenClaim := { program := "ytnfaljjlpphgiaa", sum := "01e8b862e8b68aeb394098071f265f8e88dd6fe0c274aa07f0ebbe58d766a2dc", func := "loop.example/g01315/laws.FnExactTimesOfType", spec := "fnExactTimesOfType", apart := false, narrowed := true }
def FnExactTimesOfTypeUptoSaid : Prop := fnExactTimesOfTypeUptoRow.holds Try.pinned (OpenSpec.upto fnExactTimesOfTypeSpec)

/-- 'laws.FnExactGreatestTimes', WHERE WHAT IT READS IS OF BULK AT MOST 1048576: true; the input reads as it did. -/
def fnExactGreatestTimesUptoRow : OpenClaim := { program := "ytnfaljjlpphgiaa", sum := "01e8b862e8b68aeb394098071f265f8e88dd6fe0c274aa07f0ebbe58d766a2dc", func := "loop.example/g01315/laws.FnExactGreatestTimes", spec := "fnExactGreatestTimes", unfollowed := true, recurses := true, apart := false, narrowed := true }
def FnExactGreatestTimesUptoSaid : Prop := fnExactGreatestTimesUptoRow.holds Try.pinned (OpenSpec.upto fnExactGreatestTimesSpec)

end Rows
end Go.Proofs.Ytnfaljjlpphgiaa
