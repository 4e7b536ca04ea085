/-
  No cell of these rows narrows 'for every input' (looked for: loops, veiled, ifaces, maps, wideKeys, modest, calm, conditions, laid).
  DERIVED. THE GIVEN ROWS OF THIS SEAT. 5 by the template 'for every input the law returns true; each argument reads behind the call as it read before'; 0 by the template 'total and deterministic' (their statements: YteoogkiaacdmiaaTotals.lean).
  GIVEN WITH THE SEED: the statements are not yours to turn. If you find one false, say at which input.
  Laid BY PROGRAM, IN A SANDBOX (cutbox-rows.mjs): the forced cells as the released guide's own fill.sh prints them over the translation edf990b657f3ecb4… (all of the seat's roots in one cut). By AI agents, Wed Nov 11 2026. No macro, syntax, notation, axiom, sorry.
-/
import Derived.Test.YteoogkiaacdmiaaChecked
import GoSem.Claim
import GoSem.ClaimJoined
import GoSem.ClaimMapViews
import Derived.JoinedTies
import Derived.KernelRfl
namespace Go.Proofs.Yteoogkiaacdmiaa
/- THE CELL 'sum', in the pinned program and in every row, IS THE sha256 OF THE DUMP (.gsa) THAT YteoogkiaacdmiaaProg.lean LOADS. Nothing in Lean hashes anything: it is a label: what it is worth is what the hold of that sum in a sandbox is worth. -/
noncomputable def Try.pinned : Pinned := { name := "yteoogkiaacdmiaa", sum := "edf990b657f3ecb4195bb574914fa116e3ba80e45a15a5a7d1cdb4638b20eae5", checked := Try.checked }
namespace Rows
def none {H : Type} : Left H := { results := [], args := [] }

/-- 'laws.FnExactTypeOf': WHATEVER THE INPUT: true; the input reads as it did. -/
def fnExactTypeOfSpec : ChangeSpec := { name := "fnExactTypeOf", fn := fun _ => fun
  | [d] => { results := [.lit (.bool true)], args := [d] }
  | _ => none }
def fnExactTypeOfRow : OpenClaim := { program := "yteoogkiaacdmiaa", sum := "edf990b657f3ecb4195bb574914fa116e3ba80e45a15a5a7d1cdb4638b20eae5", func := "loop.example/g01315/laws.FnExactTypeOf", spec := "fnExactTypeOf", unfollowed := true, recurses := true, apart := false }
def FnExactTypeOfSaid : Prop := fnExactTypeOfRow.holds Try.pinned (OpenSpec.ofChange fnExactTypeOfSpec)

/-- ITS FALSE NEIGHBOUR: 'it returns false'. Refute it at one input. -/
def fnExactTypeOfWrong : ChangeSpec := { name := "fnExactTypeOf", fn := fun _ => fun
  | [d] => { results := [.lit (.bool false)], args := [d] }
  | _ => none }
def FnExactTypeOfWrongFalsely : Prop := fnExactTypeOfRow.holds Try.pinned (OpenSpec.ofChange fnExactTypeOfWrong)

/-- 'laws.FnExactTwiceType': WHATEVER THE INPUT: true; the input reads as it did. -/
def fnExactTwiceTypeSpec : ChangeSpec := { name := "fnExactTwiceType", fn := fun _ => fun
  | [d] => { results := [.lit (.bool true)], args := [d] }
  | _ => none }
def fnExactTwiceTypeRow : OpenClaim := { program := "yteoogkiaacdmiaa", sum := "edf990b657f3ecb4195bb574914fa116e3ba80e45a15a5a7d1cdb4638b20eae5", func := "loop.example/g01315/laws.FnExactTwiceType", spec := "fnExactTwiceType", recurses := true, apart := false }
def FnExactTwiceTypeSaid : Prop := fnExactTwiceTypeRow.holds Try.pinned (OpenSpec.ofChange fnExactTwiceTypeSpec)

/-- ITS FALSE NEIGHBOUR: 'it returns false'. Refute it at one input. -/
def fnExactTwiceTypeWrong : ChangeSpec := { name := "fnExactTwiceType", fn := fun _ => fun
  | [d] => { results := [.lit (.bool false)], args := [d] }
  | _ => none }
def FnExactTwiceTypeWrongFalsely : Prop := fnExactTwiceTypeRow.holds Try.pinned (OpenSpec.ofChange fnExactTwiceTypeWrong)

/-- 'laws.FnExactCountRoots': WHATEVER THE INPUT: true; the input reads as it did. -/
def fnExactCountRootsSpec : ChangeSpec := { name := "fnExactCountRoots", fn := fun _ => fun
  | [d] => { results := [.lit (.bool true)], args := [d] }
  | _ => none }
def fnExactCountRootsRow : OpenClaim := { program := "yteoogkiaacdmiaa", sum := "edf990b657f3ecb4195bb574914fa116e3ba80e45a15a5a7d1cdb4638b20eae5", func := "loop.example/g01315/laws.FnExactCountRoots", spec := "fnExactCountRoots", unfollowed := true, recurses := true, apart := false }
def FnExactCountRootsSaid : Prop := fnExactCountRootsRow.holds Try.pinned (OpenSpec.ofChange fnExactCountRootsSpec)

/-- ITS FALSE NEIGHBOUR: 'it returns false'. Refute it at one input. -/
def fnExactCountRootsWrong : ChangeSpec := { name := "fnExactCountRoots", fn := fun _ => fun
  | [d] => { results := [.lit (.bool false)], args := [d] }
  | _ => none }
def FnExactCountRootsWrongFalsely : Prop := fnExactCountRootsRow.holds Try.pinned (OpenSpec.ofChange fnExactCountRootsWrong)

/-- 'laws.FnExactFirstRoot': WHATEVER THE INPUT: true; the input reads as it did. -/
def fnExactFirstRootSpec : ChangeSpec := { name := "fnExactFirstRoot", fn := fun _ => fun
  | [d] => { results := [.lit (.bool true)], args := [d] }
  | _ => none }
def fnExactFirstRootRow : OpenClaim := { program := "yteoogkiaacdmiaa", sum := "edf990b657f3ecb4195bb574914fa116e3ba80e45a15a5a7d1cdb4638b20eae5", func := "loop.example/g01315/laws.FnExactFirstRoot", spec := "fnExactFirstRoot", unfollowed := true, recurses := true, apart := false }
def FnExactFirstRootSaid : Prop := fnExactFirstRootRow.holds Try.pinned (OpenSpec.ofChange fnExactFirstRootSpec)

/-- ITS FALSE NEIGHBOUR: 'it returns false'. Refute it at one input. -/
def fnExactFirstRootWrong : ChangeSpec := { name := "fnExactFirstRoot", fn := fun _ => fun
  | [d] => { results := [.lit (.bool false)], args := [d] }
  | _ => none }
def FnExactFirstRootWrongFalsely : Prop := fnExactFirstRootRow.holds Try.pinned (OpenSpec.ofChange fnExactFirstRootWrong)

/-- 'laws.FnExactTimesToRight': WHATEVER THE INPUT: true; the input reads as it did. -/
def fnExactTimesToRightSpec : ChangeSpec := { name := "fnExactTimesToRight", fn := fun _ => fun
  | [d] => { results := [.lit (.bool true)], args := [d] }
  | _ => none }
def fnExactTimesToRightRow : OpenClaim := { program := "yteoogkiaacdmiaa", sum := "edf990b657f3ecb4195bb574914fa116e3ba80e45a15a5a7d1cdb4638b20eae5", func := "loop.example/g01315/laws.FnExactTimesToRight", spec := "fnExactTimesToRight", unfollowed := true, recurses := true, apart := false }
def FnExactTimesToRightSaid : Prop := fnExactTimesToRightRow.holds Try.pinned (OpenSpec.ofChange fnExactTimesToRightSpec)

/-- ITS FALSE NEIGHBOUR: 'it returns false'. Refute it at one input. -/
def fnExactTimesToRightWrong : ChangeSpec := { name := "fnExactTimesToRight", fn := fun _ => fun
  | [d] => { results := [.lit (.bool false)], args := [d] }
  | _ => none }
def FnExactTimesToRightWrongFalsely : Prop := fnExactTimesToRightRow.holds Try.pinned (OpenSpec.ofChange fnExactTimesToRightWrong)

/- THE SECOND FORM. 'bulk': how many values and letters a reading holds, each counted each time it is reached (what is shared counts as often as it is met; a slice's spare places count too). A statement '..UptoSaid' is the law's where the arguments, and the package variables that the reading takes, are together of bulk at most 1048576: NARROWER than '..Said'. Prove '..Said' where nothing that the law and all that it calls make is longer than what came in: it says more and counts as full. Else prove '..UptoSaid'. A law counts once. -/
mutual
def uptoBulk {H : Type} : DataW H → Nat
  | .lit (.string bytes) => bytes.length + 1
  | .lit _ => 1
  | .nil => 1
  | .ptr d => uptoBulk d + 1
  | .slice elems spare => uptoBulkAll elems + uptoBulkAll spare + 1
  | .agg parts => uptoBulkAll parts + 1
  | .iface _ d => uptoBulk d + 1
  | .map entries => uptoBulkEntries entries + 1
  | .held _ => 1
def uptoBulkAll {H : Type} : List (DataW H) → Nat
  | [] => 0
  | d :: r => uptoBulk d + uptoBulkAll r
def uptoBulkEntries {H : Type} : List (Lit × DataW H) → Nat
  | [] => 0
  | x :: r => uptoBulkEntry x + uptoBulkEntries r
def uptoBulkEntry {H : Type} : Lit × DataW H → Nat
  | (.string bytes, d) => bytes.length + uptoBulk d + 1
  | (_, d) => uptoBulk d + 1
 end
def uptoSmall : (H : Type) → List (DataW H) → Bool := fun _ ds => decide (uptoBulkAll ds ≤ 1048576)
def OpenSpec.upto (s : _root_.Go.ChangeSpec) : _root_.Go.OpenSpec := { _root_.Go.OpenSpec.ofChange s with cond := some uptoSmall }

/-- 'laws.FnExactTypeOf', WHERE WHAT IT READS IS OF BULK AT MOST 1048576: true; the input reads as it did. -/
def fnExactTypeOfUptoRow : OpenClaim := { program := "yteoogkiaacdmiaa", sum := "edf990b657f3ecb4195bb574914fa116e3ba80e45a15a5a7d1cdb4638b20eae5", func := "loop.example/g01315/laws.FnExactTypeOf", spec := "fnExactTypeOf", unfollowed := true, recurses := true, apart := false, narrowed := true }
def FnExactTypeOfUptoSaid : Prop := fnExactTypeOfUptoRow.holds Try.pinned (OpenSpec.upto fnExactTypeOfSpec)

/-- 'laws.FnExactTwiceType', WHERE WHAT IT READS IS OF BULK AT MOST 1048576: true; the input reads as it did. -/
def fnExactTwiceTypeUptoRow : OpenClaim := { program := "yteoogkiaacdmiaa", sum := "edf990b657f3ecb4195bb574914fa116e3ba80e45a15a5a7d1cdb4638b20eae5", func := "loop.example/g01315/laws.FnExactTwiceType", spec := "fnExactTwiceType", recurses := true, apart := false, narrowed := true }
def FnExactTwiceTypeUptoSaid : Prop := fnExactTwiceTypeUptoRow.holds Try.pinned (OpenSpec.upto fnExactTwiceTypeSpec)

/-- 'laws.FnExactCountRoots', WHERE WHAT IT READS IS OF BULK AT MOST 1048576: true; the input reads as it did. -/
def fnExactCountRootsUptoRow : OpenClaim := { program := "yteoogkiaacdmiaa", sum := "edf990b657f3ecb4195bb574914fa116e3ba80e45a15a5a7d1cdb4638b20eae5", func := "loop.example/g01315/laws.FnExactCountRoots", spec := "fnExactCountRoots", unfollowed := true, recurses := true, apart := false, narrowed := true }
def FnExactCountRootsUptoSaid : Prop := fnExactCountRootsUptoRow.holds Try.pinned (OpenSpec.upto fnExactCountRootsSpec)

/-- 'laws.FnExactFirstRoot', WHERE WHAT IT READS IS OF BULK AT MOST 1048576: true; the input reads as it did. -/
def fnExactFirstRootUptoRow : OpenClaim := { program := "yteoogkiaacdmiaa", sum := "edf990b657f3ecb4195bb574914fa116e3ba80e45a15a5a7d1cdb4638b20eae5", func := "loop.example/g01315/laws.FnExactFirstRoot", spec := "fnExactFirstRoot", unfollowed := true, recurses := true, apart := false, narrowed := true }
def FnExactFirstRootUptoSaid : Prop := fnExactFirstRootUptoRow.holds Try.pinned (OpenSpec.upto fnExactFirstRootSpec)

/-- 'laws.FnExactTimesToRight', WHERE WHAT IT READS IS OF BULK AT MOST 1048576: true; the input reads as it did. -/
def fnExactTimesToRightUptoRow : OpenClaim := { program := "yteoogkiaacdmiaa", sum := "edf990b657f3ecb4195bb574914fa116e3ba80e45a15a5a7d1cdb4638b20eae5", func := "loop.example/g01315/laws.FnExactTimesToRight", spec := "fnExactTimesToRight", unfollowed := true, recurses := true, apart := false, narrowed := true }
def FnExactTimesToRightUptoSaid : Prop := fnExactTimesToRightUptoRow.holds Try.pinned (OpenSpec.upto fnExactTimesToRightSpec)

end Rows
end Go.Proofs.Yteoogkiaacdmiaa
