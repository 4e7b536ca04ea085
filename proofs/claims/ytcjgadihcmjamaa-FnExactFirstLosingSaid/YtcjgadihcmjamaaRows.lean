/-
  No cell of these rows narrows 'for every input' (looked for: loops, veiled, ifaces, maps, wideKeys, modest, calm, conditions, laid).
  DERIVED. THE GIVEN ROWS OF THIS SEAT. 6 by the template 'for every input the law returns true; each argument reads behind the call as it read before'; 0 by the template 'total and deterministic' (their statements: YtcjgadihcmjamaaTotals.lean).
  GIVEN WITH THE SEED: the statements are not yours to turn. If you find one false, say at which input.
  Laid BY PROGRAM, IN A SANDBOX (cutbox-rows.mjs): the forced cells as the released guide's own fill.sh prints them over the translation 2891c5684e03762d… (all of the seat's roots in one cut). By AI agents, Wed Nov 11 2026. No macro, syntax, notation, axiom, sorry.
-/
import Derived.Test.YtcjgadihcmjamaaChecked
import GoSem.Claim
import GoSem.ClaimJoined
import GoSem.ClaimMapViews
import Derived.JoinedTies
import Derived.KernelRfl
namespace Go.Proofs.Ytcjgadihcmjamaa
/- THE CELL 'sum', in the pinned program and in every row, IS THE sha256 OF THE DUMP (.gsa) THAT YtcjgadihcmjamaaProg.lean LOADS. Nothing in Lean hashes anything: it is a label: what it is worth is what the hold of that sum in a sandbox is worth. -/
noncomputable def Try.pinned : Pinned := { name := "ytcjgadihcmjamaa", sum := "2891c5684e03762d6d93c2e63df038649af41fa4cda8b3e75b382c63f1191958", checked := Try.checked }
namespace Rows
def none {H : Type} : Left H := { results := [], args := [] }

/-- 'laws.FnExactCountAllFind': WHATEVER THE INPUT: true; the input reads as it did. -/
def fnExactCountAllFindSpec : ChangeSpec := { name := "fnExactCountAllFind", fn := fun _ => fun
  | [d1, d2] => { results := [.lit (.bool true)], args := [d1, d2] }
  | _ => none }
def fnExactCountAllFindRow : OpenClaim := { program := "ytcjgadihcmjamaa", sum := "2891c5684e03762d6d93c2e63df038649af41fa4cda8b3e75b382c63f1191958", func := "loop.example/g01315/laws.FnExactCountAllFind", spec := "fnExactCountAllFind", apart := false }
def FnExactCountAllFindSaid : Prop := fnExactCountAllFindRow.holds Try.pinned (OpenSpec.ofChange fnExactCountAllFindSpec)

/-- ITS FALSE NEIGHBOUR: 'it returns false'. Refute it at one input. -/
def fnExactCountAllFindWrong : ChangeSpec := { name := "fnExactCountAllFind", fn := fun _ => fun
  | [d1, d2] => { results := [.lit (.bool false)], args := [d1, d2] }
  | _ => none }
def FnExactCountAllFindWrongFalsely : Prop := fnExactCountAllFindRow.holds Try.pinned (OpenSpec.ofChange fnExactCountAllFindWrong)

/-- 'laws.FnExactChanceAllFind': WHATEVER THE INPUT: true; the input reads as it did. -/
def fnExactChanceAllFindSpec : ChangeSpec := { name := "fnExactChanceAllFind", fn := fun _ => fun
  | [d1, d2] => { results := [.lit (.bool true)], args := [d1, d2] }
  | _ => none }
def fnExactChanceAllFindRow : OpenClaim := { program := "ytcjgadihcmjamaa", sum := "2891c5684e03762d6d93c2e63df038649af41fa4cda8b3e75b382c63f1191958", func := "loop.example/g01315/laws.FnExactChanceAllFind", spec := "fnExactChanceAllFind", apart := false }
def FnExactChanceAllFindSaid : Prop := fnExactChanceAllFindRow.holds Try.pinned (OpenSpec.ofChange fnExactChanceAllFindSpec)

/-- ITS FALSE NEIGHBOUR: 'it returns false'. Refute it at one input. -/
def fnExactChanceAllFindWrong : ChangeSpec := { name := "fnExactChanceAllFind", fn := fun _ => fun
  | [d1, d2] => { results := [.lit (.bool false)], args := [d1, d2] }
  | _ => none }
def FnExactChanceAllFindWrongFalsely : Prop := fnExactChanceAllFindRow.holds Try.pinned (OpenSpec.ofChange fnExactChanceAllFindWrong)

/-- 'laws.FnExactChanceByLuck': WHATEVER THE INPUT: true; the input reads as it did. -/
def fnExactChanceByLuckSpec : ChangeSpec := { name := "fnExactChanceByLuck", fn := fun _ => fun
  | [d1, d2] => { results := [.lit (.bool true)], args := [d1, d2] }
  | _ => none }
def fnExactChanceByLuckRow : OpenClaim := { program := "ytcjgadihcmjamaa", sum := "2891c5684e03762d6d93c2e63df038649af41fa4cda8b3e75b382c63f1191958", func := "loop.example/g01315/laws.FnExactChanceByLuck", spec := "fnExactChanceByLuck", apart := false }
def FnExactChanceByLuckSaid : Prop := fnExactChanceByLuckRow.holds Try.pinned (OpenSpec.ofChange fnExactChanceByLuckSpec)

/-- ITS FALSE NEIGHBOUR: 'it returns false'. Refute it at one input. -/
def fnExactChanceByLuckWrong : ChangeSpec := { name := "fnExactChanceByLuck", fn := fun _ => fun
  | [d1, d2] => { results := [.lit (.bool false)], args := [d1, d2] }
  | _ => none }
def FnExactChanceByLuckWrongFalsely : Prop := fnExactChanceByLuckRow.holds Try.pinned (OpenSpec.ofChange fnExactChanceByLuckWrong)

/-- 'laws.FnExactCountFinders': WHATEVER THE INPUT: true; the input reads as it did. -/
def fnExactCountFindersSpec : ChangeSpec := { name := "fnExactCountFinders", fn := fun _ => fun
  | [d1, d2, d3] => { results := [.lit (.bool true)], args := [d1, d2, d3] }
  | _ => none }
def fnExactCountFindersRow : OpenClaim := { program := "ytcjgadihcmjamaa", sum := "2891c5684e03762d6d93c2e63df038649af41fa4cda8b3e75b382c63f1191958", func := "loop.example/g01315/laws.FnExactCountFinders", spec := "fnExactCountFinders", apart := false }
def FnExactCountFindersSaid : Prop := fnExactCountFindersRow.holds Try.pinned (OpenSpec.ofChange fnExactCountFindersSpec)

/-- ITS FALSE NEIGHBOUR: 'it returns false'. Refute it at one input. -/
def fnExactCountFindersWrong : ChangeSpec := { name := "fnExactCountFinders", fn := fun _ => fun
  | [d1, d2, d3] => { results := [.lit (.bool false)], args := [d1, d2, d3] }
  | _ => none }
def FnExactCountFindersWrongFalsely : Prop := fnExactCountFindersRow.holds Try.pinned (OpenSpec.ofChange fnExactCountFindersWrong)

/-- 'laws.FnExactTriesForChance': WHATEVER THE INPUT: true; the input reads as it did. -/
def fnExactTriesForChanceSpec : ChangeSpec := { name := "fnExactTriesForChance", fn := fun _ => fun
  | [d1, d2, d3] => { results := [.lit (.bool true)], args := [d1, d2, d3] }
  | _ => none }
def fnExactTriesForChanceRow : OpenClaim := { program := "ytcjgadihcmjamaa", sum := "2891c5684e03762d6d93c2e63df038649af41fa4cda8b3e75b382c63f1191958", func := "loop.example/g01315/laws.FnExactTriesForChance", spec := "fnExactTriesForChance", apart := false }
def FnExactTriesForChanceSaid : Prop := fnExactTriesForChanceRow.holds Try.pinned (OpenSpec.ofChange fnExactTriesForChanceSpec)

/-- ITS FALSE NEIGHBOUR: 'it returns false'. Refute it at one input. -/
def fnExactTriesForChanceWrong : ChangeSpec := { name := "fnExactTriesForChance", fn := fun _ => fun
  | [d1, d2, d3] => { results := [.lit (.bool false)], args := [d1, d2, d3] }
  | _ => none }
def FnExactTriesForChanceWrongFalsely : Prop := fnExactTriesForChanceRow.holds Try.pinned (OpenSpec.ofChange fnExactTriesForChanceWrong)

/-- 'laws.FnExactFirstLosing': WHATEVER THE INPUT: true; the input reads as it did. -/
def fnExactFirstLosingSpec : ChangeSpec := { name := "fnExactFirstLosing", fn := fun _ => fun
  | [d1, d2] => { results := [.lit (.bool true)], args := [d1, d2] }
  | _ => none }
def fnExactFirstLosingRow : OpenClaim := { program := "ytcjgadihcmjamaa", sum := "2891c5684e03762d6d93c2e63df038649af41fa4cda8b3e75b382c63f1191958", func := "loop.example/g01315/laws.FnExactFirstLosing", spec := "fnExactFirstLosing", apart := false }
def FnExactFirstLosingSaid : Prop := fnExactFirstLosingRow.holds Try.pinned (OpenSpec.ofChange fnExactFirstLosingSpec)

/-- ITS FALSE NEIGHBOUR: 'it returns false'. Refute it at one input. -/
def fnExactFirstLosingWrong : ChangeSpec := { name := "fnExactFirstLosing", fn := fun _ => fun
  | [d1, d2] => { results := [.lit (.bool false)], args := [d1, d2] }
  | _ => none }
def FnExactFirstLosingWrongFalsely : Prop := fnExactFirstLosingRow.holds Try.pinned (OpenSpec.ofChange fnExactFirstLosingWrong)

/- THE SECOND FORM. 'bulk': how many values and letters a reading holds, each counted each time it is reached (what is shared counts as often as it is met; a slice's spare places count too). A statement '..UptoSaid' is the law's where the arguments, and the package variables that the reading takes, are together of bulk at most 1048576: NARROWER than '..Said'. Prove '..Said' where nothing that the law and all that it calls make is longer than what came in: it says more and counts as full. Else prove '..UptoSaid'. A law counts once. -/
mutual
def uptoBulk {H : Type} : DataW H → Nat
  | .lit (.string bytes) => bytes.length + 1
  | .lit _ => 1
  | .nil => 1
  | .ptr d => uptoBulk d + 1
  | .slice elems spare => uptoBulkAll elems + uptoBulkAll spare + 1
  | .agg parts => uptoBulkAll parts + 1
  | .iface _ d => uptoBulk d + 1
  | .map entries => uptoBulkEntries entries + 1
  | .held _ => 1
def uptoBulkAll {H : Type} : List (DataW H) → Nat
  | [] => 0
  | d :: r => uptoBulk d + uptoBulkAll r
def uptoBulkEntries {H : Type} : List (Lit × DataW H) → Nat
  | [] => 0
  | x :: r => uptoBulkEntry x + uptoBulkEntries r
def uptoBulkEntry {H : Type} : Lit × DataW H → Nat
  | (.string bytes, d) => bytes.length + uptoBulk d + 1
  | (_, d) => uptoBulk d + 1
 end
def uptoSmall : (H : Type) → List (DataW H) → Bool := fun _ ds => decide (uptoBulkAll ds ≤ 1048576)
def OpenSpec.upto (s : _root_.Go.ChangeSpec) : _root_.Go.OpenSpec := { _root_.Go.OpenSpec.ofChange s with cond := some uptoSmall }

/-- 'laws.FnExactCountAllFind', WHERE WHAT IT READS IS OF BULK AT MOST 1048576: true; the input reads as it did. -/
def fnExactCountAllFindUptoRow : OpenClaim := { program := "ytcjgadihcmjamaa", sum := "2891c5684e03762d6d93c2e63df038649af41fa4cda8b3e75b382c63f1191958", func := "loop.example/g01315/laws.FnExactCountAllFind", spec := "fnExactCountAllFind", apart := false, narrowed := true }
def FnExactCountAllFindUptoSaid : Prop := fnExactCountAllFindUptoRow.holds Try.pinned (OpenSpec.upto fnExactCountAllFindSpec)

/-- 'laws.FnExactChanceAllFind', WHERE WHAT IT READS IS OF BULK AT MOST 1048576: true; the input reads as it did. -/
def fnExactChanceAllFindUptoRow : OpenClaim := { program := "ytcjgadihcmjamaa", sum := "2891c5684e03762d6d93c2e63df038649af41fa4cda8b3e75b382c63f1191958", func := "loop.example/g01315/laws.FnExactChanceAllFind", spec := "fnExactChanceAllFind", apart := false, narrowed := true }
def FnExactChanceAllFindUptoSaid : Prop := fnExactChanceAllFindUptoRow.holds Try.pinned (OpenSpec.upto fnExactChanceAllFindSpec)

/-- 'laws.FnExactChanceByLuck', WHERE WHAT IT READS IS OF BULK AT MOST 1048576: true; the input reads as it did. -/
def fnExactChanceByLuckUptoRow : OpenClaim := { program := "ytcjgadihcmjamaa", sum := "2891c5684e03762d6d93c2e63df038649af41fa4cda8b3e75b382c63f1191958", func := "loop.example/g01315/laws.FnExactChanceByLuck", spec := "fnExactChanceByLuck", apart := false, narrowed := true }
def FnExactChanceByLuckUptoSaid : Prop := fnExactChanceByLuckUptoRow.holds Try.pinned (OpenSpec.upto fnExactChanceByLuckSpec)

/-- 'laws.FnExactCountFinders', WHERE WHAT IT READS IS OF BULK AT MOST 1048576: true; the input reads as it did. -/
def fnExactCountFindersUptoRow : OpenClaim := { program := "ytcjgadihcmjamaa", sum := "2891c5684e03762d6d93c2e63df038649af41fa4cda8b3e75b382c63f1191958", func := "loop.example/g01315/laws.FnExactCountFinders", spec := "fnExactCountFinders", apart := false, narrowed := true }
def FnExactCountFindersUptoSaid : Prop := fnExactCountFindersUptoRow.holds Try.pinned (OpenSpec.upto fnExactCountFindersSpec)

/-- 'laws.FnExactTriesForChance', WHERE WHAT IT READS IS OF BULK AT MOST 1048576: true; the input reads as it did. -/
def fnExactTriesForChanceUptoRow : OpenClaim := { program := "ytcjgadihcmjamaa", sum := "2891c5684e03762d6d93c2e63df038649af41fa4cda8b3e75b382c63f1191958", func := "loop.example/g01315/laws.FnExactTriesForChance", spec := "fnExactTriesForChance", apart := false, narrowed := true }
def FnExactTriesForChanceUptoSaid : Prop := fnExactTriesForChanceUptoRow.holds Try.pinned (OpenSpec.upto fnExactTriesForChanceSpec)

/-- 'laws.FnExactFirstLosing', WHERE WHAT IT READS IS OF BULK AT MOST 1048576: true; the input reads as it did. -/
def fnExactFirstLosingUptoRow : OpenClaim := { program := "ytcjgadihcmjamaa", sum := "2891c5684e03762d6d93c2e63df038649af41fa4cda8b3e75b382c63f1191958", func := "loop.example/g01315/laws.FnExactFirstLosing", spec := "fnExactFirstLosing", apart := false, narrowed := true }
def FnExactFirstLosingUptoSaid : Prop := fnExactFirstLosingUptoRow.holds Try.pinned (OpenSpec.upto fnExactFirstLosingSpec)

end Rows
end Go.Proofs.Ytcjgadihcmjamaa
