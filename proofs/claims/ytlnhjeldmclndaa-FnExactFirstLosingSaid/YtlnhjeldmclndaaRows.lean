/-
  No cell of these rows narrows 'for every input' (looked for: loops, veiled, ifaces, maps, wideKeys, modest, calm, conditions, laid).
  DERIVED. THE GIVEN ROWS OF THIS SEAT. 6 by the template 'for every input the law returns true; each argument reads behind the call as it read before'; 0 by the template 'total and deterministic' (their statements: YtlnhjeldmclndaaTotals.lean).
  GIVEN WITH THE SEED: the statements are not yours to turn. If you find one false, say at which input.
  Laid BY PROGRAM, IN A SANDBOX (cutbox-rows.mjs): the forced cells as the released guide's own fill.sh prints them over the translation 491d7fe0b35cf0f0… (all of the seat's roots in one cut). By AI agents, Wed Nov 11 2026. No macro, syntax, notation, axiom, sorry.
-/
import Derived.Test.YtlnhjeldmclndaaChecked
import GoSem.Claim
import GoSem.ClaimJoined
import GoSem.ClaimMapViews
import Derived.JoinedTies
import Derived.KernelRfl
namespace Go.Proofs.Ytlnhjeldmclndaa
/- THE CELL 'sum', in the pinned program and in every row, IS THE sha256 OF THE DUMP (.gsa) THAT YtlnhjeldmclndaaProg.lean LOADS. Nothing in Lean hashes anything: it is a label: what it is worth is what the hold of that sum in a sandbox is worth. -/
noncomputable def Try.pinned : Pinned := { name := "ytlnhjeldmclndaa", sum := "491d7fe0b35cf0f095066260ccaef4d5ee4b5a71b4ddffb6e58af1d640098ee6", checked := Try.checked }
namespace Rows
def none {H : Type} : Left H := { results := [], args := [] }

/-- 'laws.FnExactCountPairsAlone': WHATEVER THE INPUT: true; the input reads as it did. -/
def fnExactCountPairsAloneSpec : ChangeSpec := { name := "fnExactCountPairsAlone", fn := fun _ => fun
  | [d] => { results := [.lit (.bool true)], args := [d] }
  | _ => none }
def fnExactCountPairsAloneRow : OpenClaim := { program := "ytlnhjeldmclndaa", sum := "491d7fe0b35cf0f095066260ccaef4d5ee4b5a71b4ddffb6e58af1d640098ee6", func := "loop.example/g01315/laws.FnExactCountPairsAlone", spec := "fnExactCountPairsAlone", recurses := true, apart := false }
def FnExactCountPairsAloneSaid : Prop := fnExactCountPairsAloneRow.holds Try.pinned (OpenSpec.ofChange fnExactCountPairsAloneSpec)

/-- ITS FALSE NEIGHBOUR: 'it returns false'. Refute it at one input. -/
def fnExactCountPairsAloneWrong : ChangeSpec := { name := "fnExactCountPairsAlone", fn := fun _ => fun
  | [d] => { results := [.lit (.bool false)], args := [d] }
  | _ => none }
def FnExactCountPairsAloneWrongFalsely : Prop := fnExactCountPairsAloneRow.holds Try.pinned (OpenSpec.ofChange fnExactCountPairsAloneWrong)

/-- 'laws.FnExactChanceLongest': WHATEVER THE INPUT: true; the input reads as it did. -/
def fnExactChanceLongestSpec : ChangeSpec := { name := "fnExactChanceLongest", fn := fun _ => fun
  | [d1, d2] => { results := [.lit (.bool true)], args := [d1, d2] }
  | _ => none }
def fnExactChanceLongestRow : OpenClaim := { program := "ytlnhjeldmclndaa", sum := "491d7fe0b35cf0f095066260ccaef4d5ee4b5a71b4ddffb6e58af1d640098ee6", func := "loop.example/g01315/laws.FnExactChanceLongest", spec := "fnExactChanceLongest", recurses := true, apart := false }
def FnExactChanceLongestSaid : Prop := fnExactChanceLongestRow.holds Try.pinned (OpenSpec.ofChange fnExactChanceLongestSpec)

/-- ITS FALSE NEIGHBOUR: 'it returns false'. Refute it at one input. -/
def fnExactChanceLongestWrong : ChangeSpec := { name := "fnExactChanceLongest", fn := fun _ => fun
  | [d1, d2] => { results := [.lit (.bool false)], args := [d1, d2] }
  | _ => none }
def FnExactChanceLongestWrongFalsely : Prop := fnExactChanceLongestRow.holds Try.pinned (OpenSpec.ofChange fnExactChanceLongestWrong)

/-- 'laws.FnExactMeanChains': WHATEVER THE INPUT: true; the input reads as it did. -/
def fnExactMeanChainsSpec : ChangeSpec := { name := "fnExactMeanChains", fn := fun _ => fun
  | [d] => { results := [.lit (.bool true)], args := [d] }
  | _ => none }
def fnExactMeanChainsRow : OpenClaim := { program := "ytlnhjeldmclndaa", sum := "491d7fe0b35cf0f095066260ccaef4d5ee4b5a71b4ddffb6e58af1d640098ee6", func := "loop.example/g01315/laws.FnExactMeanChains", spec := "fnExactMeanChains", apart := false }
def FnExactMeanChainsSaid : Prop := fnExactMeanChainsRow.holds Try.pinned (OpenSpec.ofChange fnExactMeanChainsSpec)

/-- ITS FALSE NEIGHBOUR: 'it returns false'. Refute it at one input. -/
def fnExactMeanChainsWrong : ChangeSpec := { name := "fnExactMeanChains", fn := fun _ => fun
  | [d] => { results := [.lit (.bool false)], args := [d] }
  | _ => none }
def FnExactMeanChainsWrongFalsely : Prop := fnExactMeanChainsRow.holds Try.pinned (OpenSpec.ofChange fnExactMeanChainsWrong)

/-- 'laws.FnExactMeanOfLength': WHATEVER THE INPUT: true; the input reads as it did. -/
def fnExactMeanOfLengthSpec : ChangeSpec := { name := "fnExactMeanOfLength", fn := fun _ => fun
  | [d1, d2] => { results := [.lit (.bool true)], args := [d1, d2] }
  | _ => none }
def fnExactMeanOfLengthRow : OpenClaim := { program := "ytlnhjeldmclndaa", sum := "491d7fe0b35cf0f095066260ccaef4d5ee4b5a71b4ddffb6e58af1d640098ee6", func := "loop.example/g01315/laws.FnExactMeanOfLength", spec := "fnExactMeanOfLength", apart := false }
def FnExactMeanOfLengthSaid : Prop := fnExactMeanOfLengthRow.holds Try.pinned (OpenSpec.ofChange fnExactMeanOfLengthSpec)

/-- ITS FALSE NEIGHBOUR: 'it returns false'. Refute it at one input. -/
def fnExactMeanOfLengthWrong : ChangeSpec := { name := "fnExactMeanOfLength", fn := fun _ => fun
  | [d1, d2] => { results := [.lit (.bool false)], args := [d1, d2] }
  | _ => none }
def FnExactMeanOfLengthWrongFalsely : Prop := fnExactMeanOfLengthRow.holds Try.pinned (OpenSpec.ofChange fnExactMeanOfLengthWrong)

/-- 'laws.FnExactFirstLosing': WHATEVER THE INPUT: true; the input reads as it did. -/
def fnExactFirstLosingSpec : ChangeSpec := { name := "fnExactFirstLosing", fn := fun _ => fun
  | [d1, d2] => { results := [.lit (.bool true)], args := [d1, d2] }
  | _ => none }
def fnExactFirstLosingRow : OpenClaim := { program := "ytlnhjeldmclndaa", sum := "491d7fe0b35cf0f095066260ccaef4d5ee4b5a71b4ddffb6e58af1d640098ee6", func := "loop.example/g01315/laws.FnExactFirstLosing", spec := "fnExactFirstLosing", apart := false }
def FnExactFirstLosingSaid : Prop := fnExactFirstLosingRow.holds Try.pinned (OpenSpec.ofChange fnExactFirstLosingSpec)

/-- ITS FALSE NEIGHBOUR: 'it returns false'. Refute it at one input. -/
def fnExactFirstLosingWrong : ChangeSpec := { name := "fnExactFirstLosing", fn := fun _ => fun
  | [d1, d2] => { results := [.lit (.bool false)], args := [d1, d2] }
  | _ => none }
def FnExactFirstLosingWrongFalsely : Prop := fnExactFirstLosingRow.holds Try.pinned (OpenSpec.ofChange fnExactFirstLosingWrong)

/-- 'laws.FnExactFirstOfType': WHATEVER THE INPUT: true; the input reads as it did. -/
def fnExactFirstOfTypeSpec : ChangeSpec := { name := "fnExactFirstOfType", fn := fun _ => fun
  | [d] => { results := [.lit (.bool true)], args := [d] }
  | _ => none }
def fnExactFirstOfTypeRow : OpenClaim := { program := "ytlnhjeldmclndaa", sum := "491d7fe0b35cf0f095066260ccaef4d5ee4b5a71b4ddffb6e58af1d640098ee6", func := "loop.example/g01315/laws.FnExactFirstOfType", spec := "fnExactFirstOfType", unfollowed := true, recurses := true, apart := false }
def FnExactFirstOfTypeSaid : Prop := fnExactFirstOfTypeRow.holds Try.pinned (OpenSpec.ofChange fnExactFirstOfTypeSpec)

/-- ITS FALSE NEIGHBOUR: 'it returns false'. Refute it at one input. -/
def fnExactFirstOfTypeWrong : ChangeSpec := { name := "fnExactFirstOfType", fn := fun _ => fun
  | [d] => { results := [.lit (.bool false)], args := [d] }
  | _ => none }
def FnExactFirstOfTypeWrongFalsely : Prop := fnExactFirstOfTypeRow.holds Try.pinned (OpenSpec.ofChange fnExactFirstOfTypeWrong)

/- THE SECOND FORM. 'bulk': how many values and letters a reading holds, each counted each time it is reached (what is shared counts as often as it is met; a slice's spare places count too). A statement '..UptoSaid' is the law's where the arguments, and the package variables that the reading takes, are together of bulk at most 1048576: NARROWER than '..Said'. Prove '..Said' where nothing that the law and all that it calls make is longer than what came in: it says more and counts as full. Else prove '..UptoSaid'. A law counts once. -/
mutual
def uptoBulk {H : Type} : DataW H → Nat
  | .lit (.string bytes) => bytes.length + 1
  | .lit _ => 1
  | .nil => 1
  | .ptr d => uptoBulk d + 1
  | .slice elems spare => uptoBulkAll elems + uptoBulkAll spare + 1
  | .agg parts => uptoBulkAll parts + 1
  | .iface _ d => uptoBulk d + 1
  | .map entries => uptoBulkEntries entries + 1
  | .held _ => 1
def uptoBulkAll {H : Type} : List (DataW H) → Nat
  | [] => 0
  | d :: r => uptoBulk d + uptoBulkAll r
def uptoBulkEntries {H : Type} : List (Lit × DataW H) → Nat
  | [] => 0
  | x :: r => uptoBulkEntry x + uptoBulkEntries r
def uptoBulkEntry {H : Type} : Lit × DataW H → Nat
  | (.string bytes, d) => bytes.length + uptoBulk d + 1
  | (_, d) => uptoBulk d + 1
 end
def uptoSmall : (H : Type) → List (DataW H) → Bool := fun _ ds => decide (uptoBulkAll ds ≤ 1048576)
def OpenSpec.upto (s : _root_.Go.ChangeSpec) : _root_.Go.OpenSpec := { _root_.Go.OpenSpec.ofChange s with cond := some uptoSmall }

/-- 'laws.FnExactCountPairsAlone', WHERE WHAT IT READS IS OF BULK AT MOST 1048576: true; the input reads as it did. -/
def fnExactCountPairsAloneUptoRow : OpenClaim := { program := "ytlnhjeldmclndaa", sum := "491d7fe0b35cf0f095066260ccaef4d5ee4b5a71b4ddffb6e58af1d640098ee6", func := "loop.example/g01315/laws.FnExactCountPairsAlone", spec := "fnExactCountPairsAlone", recurses := true, apart := false, narrowed := true }
def FnExactCountPairsAloneUptoSaid : Prop := fnExactCountPairsAloneUptoRow.holds Try.pinned (OpenSpec.upto fnExactCountPairsAloneSpec)

/-- 'laws.FnExactChanceLongest', WHERE WHAT IT READS IS OF BULK AT MOST 1048576: true; the input reads as it did. -/
def fnExactChanceLongestUptoRow : OpenClaim := { program := "ytlnhjeldmclndaa", sum := "491d7fe0b35cf0f095066260ccaef4d5ee4b5a71b4ddffb6e58af1d640098ee6", func := "loop.example/g01315/laws.FnExactChanceLongest", spec := "fnExactChanceLongest", recurses := true, apart := false, narrowed := true }
def FnExactChanceLongestUptoSaid : Prop := fnExactChanceLongestUptoRow.holds Try.pinned (OpenSpec.upto fnExactChanceLongestSpec)

/-- 'laws.FnExactMeanChains', WHERE WHAT IT READS IS OF BULK AT MOST 1048576: true; the input reads as it did. -/
def fnExactMeanChainsUptoRow : OpenClaim := { program := "ytlnhjeldmclndaa", sum := "491d7fe0b35cf0f095066260ccaef4d5ee4b5a71b4ddffb6e58af1d640098ee6", func := "loop.example/g01315/laws.FnExactMeanChains", spec := "fnExactMeanChains", apart := false, narrowed := true }
def FnExactMeanChainsUptoSaid : Prop := fnExactMeanChainsUptoRow.holds Try.pinned (OpenSpec.upto fnExactMeanChainsSpec)

/-- 'laws.FnExactMeanOfLength', WHERE WHAT IT READS IS OF BULK AT MOST 1048576: true; the input reads as it did. -/
def fnExactMeanOfLengthUptoRow : OpenClaim := { program := "ytlnhjeldmclndaa", sum := "491d7fe0b35cf0f095066260ccaef4d5ee4b5a71b4ddffb6e58af1d640098ee6", func := "loop.example/g01315/laws.FnExactMeanOfLength", spec := "fnExactMeanOfLength", apart := false, narrowed := true }
def FnExactMeanOfLengthUptoSaid : Prop := fnExactMeanOfLengthUptoRow.holds Try.pinned (OpenSpec.upto fnExactMeanOfLengthSpec)

/-- 'laws.FnExactFirstLosing', WHERE WHAT IT READS IS OF BULK AT MOST 1048576: true; the input reads as it did. -/
def fnExactFirstLosingUptoRow : OpenClaim := { program := "ytlnhjeldmclndaa", sum := "491d7fe0b35cf0f095066260ccaef4d5ee4b5a71b4ddffb6e58af1d640098ee6", func := "loop.example/g01315/laws.FnExactFirstLosing", spec := "fnExactFirstLosing", apart := false, narrowed := true }
def FnExactFirstLosingUptoSaid : Prop := fnExactFirstLosingUptoRow.holds Try.pinned (OpenSpec.upto fnExactFirstLosingSpec)

/-- 'laws.FnExactFirstOfType', WHERE WHAT IT READS IS OF BULK AT MOST 1048576: true; the input reads as it did. -/
def fnExactFirstOfTypeUptoRow : OpenClaim := { program := "ytlnhjeldmclndaa", sum := "491d7fe0b35cf0f095066260ccaef4d5ee4b5a71b4ddffb6e58af1d640098ee6", func := "loop.example/g01315/laws.FnExactFirstOfType", spec := "fnExactFirstOfType", unfollowed := true, recurses := true, apart := false, narrowed := true }
def FnExactFirstOfTypeUptoSaid : Prop := fnExactFirstOfTypeUptoRow.holds Try.pinned (OpenSpec.upto fnExactFirstOfTypeSpec)

end Rows
end Go.Proofs.Ytlnhjeldmclndaa
