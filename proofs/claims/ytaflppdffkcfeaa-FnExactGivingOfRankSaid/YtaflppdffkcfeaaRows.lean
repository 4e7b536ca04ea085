/-
  No cell of these rows narrows 'for every input' (looked for: loops, veiled, ifaces, maps, wideKeys, modest, calm, conditions, laid).
  DERIVED. THE GIVEN ROWS OF THIS SEAT. 3 by the template 'for every input the law returns true; each argument reads behind the call as it read before'; 0 by the template 'total and deterministic' (their statements: YtaflppdffkcfeaaTotals.lean).
  GIVEN WITH THE SEED: the statements are not yours to turn. If you find one false, say at which input.
  Laid BY PROGRAM, IN A SANDBOX (cutbox-rows.mjs): the forced cells as the released guide's own fill.sh prints them over the translation 6ab16a39a03e8204… (all of the seat's roots in one cut). By AI agents, Wed Nov 11 2026. No macro, syntax, notation, axiom, sorry.
-/
import Derived.Test.YtaflppdffkcfeaaChecked
import GoSem.Claim
import GoSem.ClaimJoined
import GoSem.ClaimMapViews
import Derived.JoinedTies
import Derived.KernelRfl
namespace Go.Proofs.Ytaflppdffkcfeaa
/- THE CELL 'sum', in the pinned program and in every row, IS THE sha256 OF THE DUMP (.gsa) THAT YtaflppdffkcfeaaProg.lean LOADS. Nothing in Lean hashes anything: it is a label: what it is worth is what the hold of that sum in a sandbox is worth. -/
noncomputable def Try.pinned : Pinned := { name := "ytaflppdffkcfeaa", sum := "6ab16a39a03e8204919dea2bac22c0adb698b6ba3e640ef1d5cc704184789bc0", checked := Try.checked }
namespace Rows
def none {H : Type} : Left H := { results := [], args := [] }

/-- 'laws.FnExactCountGivings': WHATEVER THE INPUT: true; the input reads as it did. -/
def fnExactCountGivingsSpec : ChangeSpec := { name := "fnExactCountGivings", fn := fun _ => fun
  | [d] => { results := [.lit (.bool true)], args := [d] }
  | _ => none }
def fnExactCountGivingsRow : OpenClaim := { program := "ytaflppdffkcfeaa", sum := "6ab16a39a03e8204919dea2bac22c0adb698b6ba3e640ef1d5cc704184789bc0", func := "loop.example/g01315/laws.FnExactCountGivings", spec := "fnExactCountGivings", recurses := true, apart := false }
def FnExactCountGivingsSaid : Prop := fnExactCountGivingsRow.holds Try.pinned (OpenSpec.ofChange fnExactCountGivingsSpec)

/-- ITS FALSE NEIGHBOUR: 'it returns false'. Refute it at one input. -/
def fnExactCountGivingsWrong : ChangeSpec := { name := "fnExactCountGivings", fn := fun _ => fun
  | [d] => { results := [.lit (.bool false)], args := [d] }
  | _ => none }
def FnExactCountGivingsWrongFalsely : Prop := fnExactCountGivingsRow.holds Try.pinned (OpenSpec.ofChange fnExactCountGivingsWrong)

/-- 'laws.FnExactGivingOfRank': WHATEVER THE INPUT: true; the input reads as it did. -/
def fnExactGivingOfRankSpec : ChangeSpec := { name := "fnExactGivingOfRank", fn := fun _ => fun
  | [d1, d2] => { results := [.lit (.bool true)], args := [d1, d2] }
  | _ => none }
def fnExactGivingOfRankRow : OpenClaim := { program := "ytaflppdffkcfeaa", sum := "6ab16a39a03e8204919dea2bac22c0adb698b6ba3e640ef1d5cc704184789bc0", func := "loop.example/g01315/laws.FnExactGivingOfRank", spec := "fnExactGivingOfRank", recurses := true, apart := false }
def FnExactGivingOfRankSaid : Prop := fnExactGivingOfRankRow.holds Try.pinned (OpenSpec.ofChange fnExactGivingOfRankSpec)

/-- ITS FALSE NEIGHBOUR: 'it returns false'. Refute it at one input. -/
def fnExactGivingOfRankWrong : ChangeSpec := { name := "fnExactGivingOfRank", fn := fun _ => fun
  | [d1, d2] => { results := [.lit (.bool false)], args := [d1, d2] }
  | _ => none }
def FnExactGivingOfRankWrongFalsely : Prop := fnExactGivingOfRankRow.holds Try.pinned (OpenSpec.ofChange fnExactGivingOfRankWrong)

/-- 'laws.FnExactRankOfGiving': WHATEVER THE INPUT: true; the input reads as it did. -/
def fnExactRankOfGivingSpec : ChangeSpec := { name := "fnExactRankOfGiving", fn := fun _ => fun
  | [d1, d2] => { results := [.lit (.bool true)], args := [d1, d2] }
  | _ => none }
def fnExactRankOfGivingRow : OpenClaim := { program := "ytaflppdffkcfeaa", sum := "6ab16a39a03e8204919dea2bac22c0adb698b6ba3e640ef1d5cc704184789bc0", func := "loop.example/g01315/laws.FnExactRankOfGiving", spec := "fnExactRankOfGiving", recurses := true, apart := false }
def FnExactRankOfGivingSaid : Prop := fnExactRankOfGivingRow.holds Try.pinned (OpenSpec.ofChange fnExactRankOfGivingSpec)

/-- ITS FALSE NEIGHBOUR: 'it returns false'. Refute it at one input. -/
def fnExactRankOfGivingWrong : ChangeSpec := { name := "fnExactRankOfGiving", fn := fun _ => fun
  | [d1, d2] => { results := [.lit (.bool false)], args := [d1, d2] }
  | _ => none }
def FnExactRankOfGivingWrongFalsely : Prop := fnExactRankOfGivingRow.holds Try.pinned (OpenSpec.ofChange fnExactRankOfGivingWrong)

/- THE SECOND FORM. 'bulk': how many values and letters a reading holds, each counted each time it is reached (what is shared counts as often as it is met; a slice's spare places count too). A statement '..UptoSaid' is the law's where the arguments, and the package variables that the reading takes, are together of bulk at most 1048576: NARROWER than '..Said'. Prove '..Said' where nothing that the law and all that it calls make is longer than what came in: it says more and counts as full. Else prove '..UptoSaid'. A law counts once. -/
mutual
def uptoBulk {H : Type} : DataW H → Nat
  | .lit (.string bytes) => bytes.length + 1
  | .lit _ => 1
  | .nil => 1
  | .ptr d => uptoBulk d + 1
  | .slice elems spare => uptoBulkAll elems + uptoBulkAll spare + 1
  | .agg parts => uptoBulkAll parts + 1
  | .iface _ d => uptoBulk d + 1
  | .map entries => uptoBulkEntries entries + 1
  | .held _ => 1
def uptoBulkAll {H : Type} : List (DataW H) → Nat
  | [] => 0
  | d :: r => uptoBulk d + uptoBulkAll r
def uptoBulkEntries {H : Type} : List (Lit × DataW H) → Nat
  | [] => 0
  | x :: r => uptoBulkEntry x + uptoBulkEntries r
def uptoBulkEntry {H : Type} : Lit × DataW H → Nat
  | (.string bytes, d) => bytes.length + uptoBulk d + 1
  | (_, d) => uptoBulk d + 1
 end
def uptoSmall : (H : Type) → List (DataW H) → Bool := fun _ ds => decide (uptoBulkAll ds ≤ 1048576)
def OpenSpec.upto (s : _root_.Go.ChangeSpec) : _root_.Go.OpenSpec := { _root_.Go.OpenSpec.ofChange s with cond := some uptoSmall }

/-- 'laws.FnExactCountGivings', WHERE WHAT IT READS IS OF BULK AT MOST 1048576: true; the input reads as it did. -/
def fnExactCountGivingsUptoRow : OpenClaim := { program := "ytaflppdffkcfeaa", sum := "6ab16a39a03e8204919dea2bac22c0adb698b6ba3e640ef1d5cc704184789bc0", func := "loop.example/g01315/laws.FnExactCountGivings", spec := "fnExactCountGivings", recurses := true, apart := false, narrowed := true }
def FnExactCountGivingsUptoSaid : Prop := fnExactCountGivingsUptoRow.holds Try.pinned (OpenSpec.upto fnExactCountGivingsSpec)

/-- 'laws.FnExactGivingOfRank', WHERE WHAT IT READS IS OF BULK AT MOST 1048576: true; the input reads as it did. -/
def fnExactGivingOfRankUptoRow : OpenClaim := { program := "ytaflppdffkcfeaa", sum := "6ab16a39a03e8204919dea2bac22c0adb698b6ba3e640ef1d5cc704184789bc0", func := "loop.example/g01315/laws.FnExactGivingOfRank", spec := "fnExactGivingOfRank", recurses := true, apart := false, narrowed := true }
def FnExactGivingOfRankUptoSaid : Prop := fnExactGivingOfRankUptoRow.holds Try.pinned (OpenSpec.upto fnExactGivingOfRankSpec)

/-- 'laws.FnExactRankOfGiving', WHERE WHAT IT READS IS OF BULK AT MOST 1048576: true; the input reads as it did. -/
def fnExactRankOfGivingUptoRow : OpenClaim := { program := "ytaflppdffkcfeaa", sum := "6ab16a39a03e8204919dea2bac22c0adb698b6ba3e640ef1d5cc704184789bc0", func := "loop.example/g01315/laws.FnExactRankOfGiving", spec := "fnExactRankOfGiving", recurses := true, apart := false, narrowed := true }
def FnExactRankOfGivingUptoSaid : Prop := fnExactRankOfGivingUptoRow.holds Try.pinned (OpenSpec.upto fnExactRankOfGivingSpec)

end Rows
end Go.Proofs.Ytaflppdffkcfeaa
