/-
  No cell of these rows narrows 'for every input' (looked for: loops, veiled, ifaces, maps, wideKeys, modest, calm, conditions, laid).
  DERIVED. THE GIVEN ROWS OF THIS SEAT. 12 by the template 'for every input the law returns true; each argument reads behind the call as it read before'; 0 by the template 'total and deterministic' (their statements: YtkccjedfdgdinaaTotals.lean).
  GIVEN WITH THE SEED: the statements are not yours to turn. If you find one false, say at which input.
  Laid BY PROGRAM, IN A SANDBOX (cutbox-rows.mjs): the forced cells as the released guide's own fill.sh prints them over the translation 1119e055ee033e2a… (all of the seat's roots in one cut). By AI agents, Wed Nov 11 2026. No macro, syntax, notation, axiom, sorry.
-/
import Derived.Test.YtkccjedfdgdinaaChecked
import GoSem.Claim
import GoSem.ClaimJoined
import GoSem.ClaimMapViews
import Derived.JoinedTies
import Derived.KernelRfl
namespace Go.Proofs.Ytkccjedfdgdinaa
/- THE CELL 'sum', in the pinned program and in every row, IS THE sha256 OF THE DUMP (.gsa) THAT YtkccjedfdgdinaaProg.lean LOADS. Nothing in Lean hashes anything: it is a label: what it is worth is what the hold of that sum in a sandbox is worth. -/
noncomputable def Try.pinned : Pinned := { name := "ytkccjedfdgdinaa", sum := "1119e055ee033e2aca4f3592bd5e9463fc825c19e910838e1b80a34198989fbd", checked := Try.checked }
namespace Rows
def none {H : Type} : Left H := { results := [], args := [] }

/-- 'laws.FnExactRankOfNone': WHATEVER THE INPUT: true; the input reads as it did. -/
def fnExactRankOfNoneSpec : ChangeSpec := { name := "fnExactRankOfNone", fn := fun _ => fun
  | [d] => { results := [.lit (.bool true)], args := [d] }
  | _ => none }
def fnExactRankOfNoneRow : OpenClaim := { program := "ytkccjedfdgdinaa", sum := "1119e055ee033e2aca4f3592bd5e9463fc825c19e910838e1b80a34198989fbd", func := "loop.example/g01315/laws.FnExactRankOfNone", spec := "fnExactRankOfNone", apart := false }
def FnExactRankOfNoneSaid : Prop := fnExactRankOfNoneRow.holds Try.pinned (OpenSpec.ofChange fnExactRankOfNoneSpec)

/-- ITS FALSE NEIGHBOUR: 'it returns false'. Refute it at one input. -/
def fnExactRankOfNoneWrong : ChangeSpec := { name := "fnExactRankOfNone", fn := fun _ => fun
  | [d] => { results := [.lit (.bool false)], args := [d] }
  | _ => none }
def FnExactRankOfNoneWrongFalsely : Prop := fnExactRankOfNoneRow.holds Try.pinned (OpenSpec.ofChange fnExactRankOfNoneWrong)

/-- 'laws.FnExactNoneOfRank': WHATEVER THE INPUT: true; the input reads as it did. -/
def fnExactNoneOfRankSpec : ChangeSpec := { name := "fnExactNoneOfRank", fn := fun _ => fun
  | [d1, d2] => { results := [.lit (.bool true)], args := [d1, d2] }
  | _ => none }
def fnExactNoneOfRankRow : OpenClaim := { program := "ytkccjedfdgdinaa", sum := "1119e055ee033e2aca4f3592bd5e9463fc825c19e910838e1b80a34198989fbd", func := "loop.example/g01315/laws.FnExactNoneOfRank", spec := "fnExactNoneOfRank", apart := false }
def FnExactNoneOfRankSaid : Prop := fnExactNoneOfRankRow.holds Try.pinned (OpenSpec.ofChange fnExactNoneOfRankSpec)

/-- ITS FALSE NEIGHBOUR: 'it returns false'. Refute it at one input. -/
def fnExactNoneOfRankWrong : ChangeSpec := { name := "fnExactNoneOfRank", fn := fun _ => fun
  | [d1, d2] => { results := [.lit (.bool false)], args := [d1, d2] }
  | _ => none }
def FnExactNoneOfRankWrongFalsely : Prop := fnExactNoneOfRankRow.holds Try.pinned (OpenSpec.ofChange fnExactNoneOfRankWrong)

/-- 'laws.FnExactNextNone': WHATEVER THE INPUT: true; the input reads as it did. -/
def fnExactNextNoneSpec : ChangeSpec := { name := "fnExactNextNone", fn := fun _ => fun
  | [d] => { results := [.lit (.bool true)], args := [d] }
  | _ => none }
def fnExactNextNoneRow : OpenClaim := { program := "ytkccjedfdgdinaa", sum := "1119e055ee033e2aca4f3592bd5e9463fc825c19e910838e1b80a34198989fbd", func := "loop.example/g01315/laws.FnExactNextNone", spec := "fnExactNextNone", apart := false }
def FnExactNextNoneSaid : Prop := fnExactNextNoneRow.holds Try.pinned (OpenSpec.ofChange fnExactNextNoneSpec)

/-- ITS FALSE NEIGHBOUR: 'it returns false'. Refute it at one input. -/
def fnExactNextNoneWrong : ChangeSpec := { name := "fnExactNextNone", fn := fun _ => fun
  | [d] => { results := [.lit (.bool false)], args := [d] }
  | _ => none }
def FnExactNextNoneWrongFalsely : Prop := fnExactNextNoneRow.holds Try.pinned (OpenSpec.ofChange fnExactNextNoneWrong)

/-- 'laws.FnExactFirstNone': WHATEVER THE INPUT: true; the input reads as it did. -/
def fnExactFirstNoneSpec : ChangeSpec := { name := "fnExactFirstNone", fn := fun _ => fun
  | [d] => { results := [.lit (.bool true)], args := [d] }
  | _ => none }
def fnExactFirstNoneRow : OpenClaim := { program := "ytkccjedfdgdinaa", sum := "1119e055ee033e2aca4f3592bd5e9463fc825c19e910838e1b80a34198989fbd", func := "loop.example/g01315/laws.FnExactFirstNone", spec := "fnExactFirstNone", apart := false }
def FnExactFirstNoneSaid : Prop := fnExactFirstNoneRow.holds Try.pinned (OpenSpec.ofChange fnExactFirstNoneSpec)

/-- ITS FALSE NEIGHBOUR: 'it returns false'. Refute it at one input. -/
def fnExactFirstNoneWrong : ChangeSpec := { name := "fnExactFirstNone", fn := fun _ => fun
  | [d] => { results := [.lit (.bool false)], args := [d] }
  | _ => none }
def FnExactFirstNoneWrongFalsely : Prop := fnExactFirstNoneRow.holds Try.pinned (OpenSpec.ofChange fnExactFirstNoneWrong)

/-- 'laws.FnExactFewestSwaps': WHATEVER THE INPUT: true; the input reads as it did. -/
def fnExactFewestSwapsSpec : ChangeSpec := { name := "fnExactFewestSwaps", fn := fun _ => fun
  | [d] => { results := [.lit (.bool true)], args := [d] }
  | _ => none }
def fnExactFewestSwapsRow : OpenClaim := { program := "ytkccjedfdgdinaa", sum := "1119e055ee033e2aca4f3592bd5e9463fc825c19e910838e1b80a34198989fbd", func := "loop.example/g01315/laws.FnExactFewestSwaps", spec := "fnExactFewestSwaps", apart := false }
def FnExactFewestSwapsSaid : Prop := fnExactFewestSwapsRow.holds Try.pinned (OpenSpec.ofChange fnExactFewestSwapsSpec)

/-- ITS FALSE NEIGHBOUR: 'it returns false'. Refute it at one input. -/
def fnExactFewestSwapsWrong : ChangeSpec := { name := "fnExactFewestSwaps", fn := fun _ => fun
  | [d] => { results := [.lit (.bool false)], args := [d] }
  | _ => none }
def FnExactFewestSwapsWrongFalsely : Prop := fnExactFewestSwapsRow.holds Try.pinned (OpenSpec.ofChange fnExactFewestSwapsWrong)

/-- 'laws.FnExactTimesToRight': WHATEVER THE INPUT: true; the input reads as it did. -/
def fnExactTimesToRightSpec : ChangeSpec := { name := "fnExactTimesToRight", fn := fun _ => fun
  | [d] => { results := [.lit (.bool true)], args := [d] }
  | _ => none }
def fnExactTimesToRightRow : OpenClaim := { program := "ytkccjedfdgdinaa", sum := "1119e055ee033e2aca4f3592bd5e9463fc825c19e910838e1b80a34198989fbd", func := "loop.example/g01315/laws.FnExactTimesToRight", spec := "fnExactTimesToRight", unfollowed := true, recurses := true, apart := false }
def FnExactTimesToRightSaid : Prop := fnExactTimesToRightRow.holds Try.pinned (OpenSpec.ofChange fnExactTimesToRightSpec)

/-- ITS FALSE NEIGHBOUR: 'it returns false'. Refute it at one input. -/
def fnExactTimesToRightWrong : ChangeSpec := { name := "fnExactTimesToRight", fn := fun _ => fun
  | [d] => { results := [.lit (.bool false)], args := [d] }
  | _ => none }
def FnExactTimesToRightWrongFalsely : Prop := fnExactTimesToRightRow.holds Try.pinned (OpenSpec.ofChange fnExactTimesToRightWrong)

/-- 'laws.FnExactChainsOf': WHATEVER THE INPUT: true; the input reads as it did. -/
def fnExactChainsOfSpec : ChangeSpec := { name := "fnExactChainsOf", fn := fun _ => fun
  | [d] => { results := [.lit (.bool true)], args := [d] }
  | _ => none }
def fnExactChainsOfRow : OpenClaim := { program := "ytkccjedfdgdinaa", sum := "1119e055ee033e2aca4f3592bd5e9463fc825c19e910838e1b80a34198989fbd", func := "loop.example/g01315/laws.FnExactChainsOf", spec := "fnExactChainsOf", unfollowed := true, recurses := true, apart := false }
def FnExactChainsOfSaid : Prop := fnExactChainsOfRow.holds Try.pinned (OpenSpec.ofChange fnExactChainsOfSpec)

/-- ITS FALSE NEIGHBOUR: 'it returns false'. Refute it at one input. -/
def fnExactChainsOfWrong : ChangeSpec := { name := "fnExactChainsOf", fn := fun _ => fun
  | [d] => { results := [.lit (.bool false)], args := [d] }
  | _ => none }
def FnExactChainsOfWrongFalsely : Prop := fnExactChainsOfRow.holds Try.pinned (OpenSpec.ofChange fnExactChainsOfWrong)

/-- 'laws.FnExactFirstSwaps': WHATEVER THE INPUT: true; the input reads as it did. -/
def fnExactFirstSwapsSpec : ChangeSpec := { name := "fnExactFirstSwaps", fn := fun _ => fun
  | [d] => { results := [.lit (.bool true)], args := [d] }
  | _ => none }
def fnExactFirstSwapsRow : OpenClaim := { program := "ytkccjedfdgdinaa", sum := "1119e055ee033e2aca4f3592bd5e9463fc825c19e910838e1b80a34198989fbd", func := "loop.example/g01315/laws.FnExactFirstSwaps", spec := "fnExactFirstSwaps", apart := false }
def FnExactFirstSwapsSaid : Prop := fnExactFirstSwapsRow.holds Try.pinned (OpenSpec.ofChange fnExactFirstSwapsSpec)

/-- ITS FALSE NEIGHBOUR: 'it returns false'. Refute it at one input. -/
def fnExactFirstSwapsWrong : ChangeSpec := { name := "fnExactFirstSwaps", fn := fun _ => fun
  | [d] => { results := [.lit (.bool false)], args := [d] }
  | _ => none }
def FnExactFirstSwapsWrongFalsely : Prop := fnExactFirstSwapsRow.holds Try.pinned (OpenSpec.ofChange fnExactFirstSwapsWrong)

/-- 'laws.FnExactFamiliesText': WHATEVER THE INPUT: true; the input reads as it did. -/
def fnExactFamiliesTextSpec : ChangeSpec := { name := "fnExactFamiliesText", fn := fun _ => fun
  | [d] => { results := [.lit (.bool true)], args := [d] }
  | _ => none }
def fnExactFamiliesTextRow : OpenClaim := { program := "ytkccjedfdgdinaa", sum := "1119e055ee033e2aca4f3592bd5e9463fc825c19e910838e1b80a34198989fbd", func := "loop.example/g01315/laws.FnExactFamiliesText", spec := "fnExactFamiliesText", recurses := true, apart := false }
def FnExactFamiliesTextSaid : Prop := fnExactFamiliesTextRow.holds Try.pinned (OpenSpec.ofChange fnExactFamiliesTextSpec)

/-- ITS FALSE NEIGHBOUR: 'it returns false'. Refute it at one input. -/
def fnExactFamiliesTextWrong : ChangeSpec := { name := "fnExactFamiliesText", fn := fun _ => fun
  | [d] => { results := [.lit (.bool false)], args := [d] }
  | _ => none }
def FnExactFamiliesTextWrongFalsely : Prop := fnExactFamiliesTextRow.holds Try.pinned (OpenSpec.ofChange fnExactFamiliesTextWrong)

/-- 'laws.FnExactParseFamilies': WHATEVER THE INPUT: true; the input reads as it did. -/
def fnExactParseFamiliesSpec : ChangeSpec := { name := "fnExactParseFamilies", fn := fun _ => fun
  | [d] => { results := [.lit (.bool true)], args := [d] }
  | _ => none }
def fnExactParseFamiliesRow : OpenClaim := { program := "ytkccjedfdgdinaa", sum := "1119e055ee033e2aca4f3592bd5e9463fc825c19e910838e1b80a34198989fbd", func := "loop.example/g01315/laws.FnExactParseFamilies", spec := "fnExactParseFamilies", apart := false }
def FnExactParseFamiliesSaid : Prop := fnExactParseFamiliesRow.holds Try.pinned (OpenSpec.ofChange fnExactParseFamiliesSpec)

/-- ITS FALSE NEIGHBOUR: 'it returns false'. Refute it at one input. -/
def fnExactParseFamiliesWrong : ChangeSpec := { name := "fnExactParseFamilies", fn := fun _ => fun
  | [d] => { results := [.lit (.bool false)], args := [d] }
  | _ => none }
def FnExactParseFamiliesWrongFalsely : Prop := fnExactParseFamiliesRow.holds Try.pinned (OpenSpec.ofChange fnExactParseFamiliesWrong)

/-- 'laws.FnExactFirstGiving': WHATEVER THE INPUT: true; the input reads as it did. -/
def fnExactFirstGivingSpec : ChangeSpec := { name := "fnExactFirstGiving", fn := fun _ => fun
  | [d] => { results := [.lit (.bool true)], args := [d] }
  | _ => none }
def fnExactFirstGivingRow : OpenClaim := { program := "ytkccjedfdgdinaa", sum := "1119e055ee033e2aca4f3592bd5e9463fc825c19e910838e1b80a34198989fbd", func := "loop.example/g01315/laws.FnExactFirstGiving", spec := "fnExactFirstGiving", unfollowed := true, recurses := true, apart := false }
def FnExactFirstGivingSaid : Prop := fnExactFirstGivingRow.holds Try.pinned (OpenSpec.ofChange fnExactFirstGivingSpec)

/-- ITS FALSE NEIGHBOUR: 'it returns false'. Refute it at one input. -/
def fnExactFirstGivingWrong : ChangeSpec := { name := "fnExactFirstGiving", fn := fun _ => fun
  | [d] => { results := [.lit (.bool false)], args := [d] }
  | _ => none }
def FnExactFirstGivingWrongFalsely : Prop := fnExactFirstGivingRow.holds Try.pinned (OpenSpec.ofChange fnExactFirstGivingWrong)

/-- 'laws.FnExactNextGiving': WHATEVER THE INPUT: true; the input reads as it did. -/
def fnExactNextGivingSpec : ChangeSpec := { name := "fnExactNextGiving", fn := fun _ => fun
  | [d1, d2] => { results := [.lit (.bool true)], args := [d1, d2] }
  | _ => none }
def fnExactNextGivingRow : OpenClaim := { program := "ytkccjedfdgdinaa", sum := "1119e055ee033e2aca4f3592bd5e9463fc825c19e910838e1b80a34198989fbd", func := "loop.example/g01315/laws.FnExactNextGiving", spec := "fnExactNextGiving", unfollowed := true, recurses := true, apart := false }
def FnExactNextGivingSaid : Prop := fnExactNextGivingRow.holds Try.pinned (OpenSpec.ofChange fnExactNextGivingSpec)

/-- ITS FALSE NEIGHBOUR: 'it returns false'. Refute it at one input. -/
def fnExactNextGivingWrong : ChangeSpec := { name := "fnExactNextGiving", fn := fun _ => fun
  | [d1, d2] => { results := [.lit (.bool false)], args := [d1, d2] }
  | _ => none }
def FnExactNextGivingWrongFalsely : Prop := fnExactNextGivingRow.holds Try.pinned (OpenSpec.ofChange fnExactNextGivingWrong)

/- THE SECOND FORM. 'bulk': how many values and letters a reading holds, each counted each time it is reached (what is shared counts as often as it is met; a slice's spare places count too). A statement '..UptoSaid' is the law's where the arguments, and the package variables that the reading takes, are together of bulk at most 1048576: NARROWER than '..Said'. Prove '..Said' where nothing that the law and all that it calls make is longer than what came in: it says more and counts as full. Else prove '..UptoSaid'. A law counts once. -/
mutual
def uptoBulk {H : Type} : DataW H → Nat
  | .lit (.string bytes) => bytes.length + 1
  | .lit _ => 1
  | .nil => 1
  | .ptr d => uptoBulk d + 1
  | .slice elems spare => uptoBulkAll elems + uptoBulkAll spare + 1
  | .agg parts => uptoBulkAll parts + 1
  | .iface _ d => uptoBulk d + 1
  | .map entries => uptoBulkEntries entries + 1
  | .held _ => 1
def uptoBulkAll {H : Type} : List (DataW H) → Nat
  | [] => 0
  | d :: r => uptoBulk d + uptoBulkAll r
def uptoBulkEntries {H : Type} : List (Lit × DataW H) → Nat
  | [] => 0
  | x :: r => uptoBulkEntry x + uptoBulkEntries r
def uptoBulkEntry {H : Type} : Lit × DataW H → Nat
  | (.string bytes, d) => bytes.length + uptoBulk d + 1
  | (_, d) => uptoBulk d + 1
 end
def uptoSmall : (H : Type) → List (DataW H) → Bool := fun _ ds => decide (uptoBulkAll ds ≤ 1048576)
def OpenSpec.upto (s : _root_.Go.ChangeSpec) : _root_.Go.OpenSpec := { _root_.Go.OpenSpec.ofChange s with cond := some uptoSmall }

/-- 'laws.FnExactRankOfNone', WHERE WHAT IT READS IS OF BULK AT MOST 1048576: true; the input reads as it did. -/
def fnExactRankOfNoneUptoRow : OpenClaim := { program := "ytkccjedfdgdinaa", sum := "1119e055ee033e2aca4f3592bd5e9463fc825c19e910838e1b80a34198989fbd", func := "loop.example/g01315/laws.FnExactRankOfNone", spec := "fnExactRankOfNone", apart := false, narrowed := true }
def FnExactRankOfNoneUptoSaid : Prop := fnExactRankOfNoneUptoRow.holds Try.pinned (OpenSpec.upto fnExactRankOfNoneSpec)

/-- 'laws.FnExactNoneOfRank', WHERE WHAT IT READS IS OF BULK AT MOST 1048576: true; the input reads as it did. -/
def fnExactNoneOfRankUptoRow : OpenClaim := { program := "ytkccjedfdgdinaa", sum := "1119e055ee033e2aca4f3592bd5e9463fc825c19e910838e1b80a34198989fbd", func := "loop.example/g01315/laws.FnExactNoneOfRank", spec := "fnExactNoneOfRank", apart := false, narrowed := true }
def FnExactNoneOfRankUptoSaid : Prop := fnExactNoneOfRankUptoRow.holds Try.pinned (OpenSpec.upto fnExactNoneOfRankSpec)

/-- 'laws.FnExactNextNone', WHERE WHAT IT READS IS OF BULK AT MOST 1048576: true; the input reads as it did. -/
def fnExactNextNoneUptoRow : OpenClaim := { program := "ytkccjedfdgdinaa", sum := "1119e055ee033e2aca4f3592bd5e9463fc825c19e910838e1b80a34198989fbd", func := "loop.example/g01315/laws.FnExactNextNone", spec := "fnExactNextNone", apart := false, narrowed := true }
def FnExactNextNoneUptoSaid : Prop := fnExactNextNoneUptoRow.holds Try.pinned (OpenSpec.upto fnExactNextNoneSpec)

/-- 'laws.FnExactFirstNone', WHERE WHAT IT READS IS OF BULK AT MOST 1048576: true; the input reads as it did. -/
def fnExactFirstNoneUptoRow : OpenClaim := { program := "ytkccjedfdgdinaa", sum := "1119e055ee033e2aca4f3592bd5e9463fc825c19e910838e1b80a34198989fbd", func := "loop.example/g01315/laws.FnExactFirstNone", spec := "fnExactFirstNone", apart := false, narrowed := true }
def FnExactFirstNoneUptoSaid : Prop := fnExactFirstNoneUptoRow.holds Try.pinned (OpenSpec.upto fnExactFirstNoneSpec)

/-- 'laws.FnExactFewestSwaps', WHERE WHAT IT READS IS OF BULK AT MOST 1048576: true; the input reads as it did. -/
def fnExactFewestSwapsUptoRow : OpenClaim := { program := "ytkccjedfdgdinaa", sum := "1119e055ee033e2aca4f3592bd5e9463fc825c19e910838e1b80a34198989fbd", func := "loop.example/g01315/laws.FnExactFewestSwaps", spec := "fnExactFewestSwaps", apart := false, narrowed := true }
def FnExactFewestSwapsUptoSaid : Prop := fnExactFewestSwapsUptoRow.holds Try.pinned (OpenSpec.upto fnExactFewestSwapsSpec)

/-- 'laws.FnExactTimesToRight', WHERE WHAT IT READS IS OF BULK AT MOST 1048576: true; the input reads as it did. -/
def fnExactTimesToRightUptoRow : OpenClaim := { program := "ytkccjedfdgdinaa", sum := "1119e055ee033e2aca4f3592bd5e9463fc825c19e910838e1b80a34198989fbd", func := "loop.example/g01315/laws.FnExactTimesToRight", spec := "fnExactTimesToRight", unfollowed := true, recurses := true, apart := false, narrowed := true }
def FnExactTimesToRightUptoSaid : Prop := fnExactTimesToRightUptoRow.holds Try.pinned (OpenSpec.upto fnExactTimesToRightSpec)

/-- 'laws.FnExactChainsOf', WHERE WHAT IT READS IS OF BULK AT MOST 1048576: true; the input reads as it did. -/
def fnExactChainsOfUptoRow : OpenClaim := { program := "ytkccjedfdgdinaa", sum := "1119e055ee033e2aca4f3592bd5e9463fc825c19e910838e1b80a34198989fbd", func := "loop.example/g01315/laws.FnExactChainsOf", spec := "fnExactChainsOf", unfollowed := true, recurses := true, apart := false, narrowed := true }
def FnExactChainsOfUptoSaid : Prop := fnExactChainsOfUptoRow.holds Try.pinned (OpenSpec.upto fnExactChainsOfSpec)

/-- 'laws.FnExactFirstSwaps', WHERE WHAT IT READS IS OF BULK AT MOST 1048576: true; the input reads as it did. -/
def fnExactFirstSwapsUptoRow : OpenClaim := { program := "ytkccjedfdgdinaa", sum := "1119e055ee033e2aca4f3592bd5e9463fc825c19e910838e1b80a34198989fbd", func := "loop.example/g01315/laws.FnExactFirstSwaps", spec := "fnExactFirstSwaps", apart := false, narrowed := true }
def FnExactFirstSwapsUptoSaid : Prop := fnExactFirstSwapsUptoRow.holds Try.pinned (OpenSpec.upto fnExactFirstSwapsSpec)

/-- 'laws.FnExactFamiliesText', WHERE WHAT IT READS IS OF BULK AT MOST 1048576: true; the input reads as it did. -/
def fnExactFamiliesTextUptoRow : OpenClaim := { program := "ytkccjedfdgdinaa", sum := "1119e055ee033e2aca4f3592bd5e9463fc825c19e910838e1b80a34198989fbd", func := "loop.example/g01315/laws.FnExactFamiliesText", spec := "fnExactFamiliesText", recurses := true, apart := false, narrowed := true }
def FnExactFamiliesTextUptoSaid : Prop := fnExactFamiliesTextUptoRow.holds Try.pinned (OpenSpec.upto fnExactFamiliesTextSpec)

/-- 'laws.FnExactParseFamilies', WHERE WHAT IT READS IS OF BULK AT MOST 1048576: true; the input reads as it did. -/
def fnExactParseFamiliesUptoRow : OpenClaim := { program := "ytkccjedfdgdinaa", sum := "1119e055ee033e2aca4f3592bd5e9463fc825c19e910838e1b80a34198989fbd", func := "loop.example/g01315/laws.FnExactParseFamilies", spec := "fnExactParseFamilies", apart := false, narrowed := true }
def FnExactParseFamiliesUptoSaid : Prop := fnExactParseFamiliesUptoRow.holds Try.pinned (OpenSpec.upto fnExactParseFamiliesSpec)

/-- 'laws.FnExactFirstGiving', WHERE WHAT IT READS IS OF BULK AT MOST 1048576: true; the input reads as it did. -/
def fnExactFirstGivingUptoRow : OpenClaim := { program := "ytkccjedfdgdinaa", sum := "1119e055ee033e2aca4f3592bd5e9463fc825c19e910838e1b80a34198989fbd", func := "loop.example/g01315/laws.FnExactFirstGiving", spec := "fnExactFirstGiving", unfollowed := true, recurses := true, apart := false, narrowed := true }
def FnExactFirstGivingUptoSaid : Prop := fnExactFirstGivingUptoRow.holds Try.pinned (OpenSpec.upto fnExactFirstGivingSpec)

/-- 'laws.FnExactNextGiving', WHERE WHAT IT READS IS OF BULK AT MOST 1048576: true; the input reads as it did. -/
def fnExactNextGivingUptoRow : OpenClaim := { program := "ytkccjedfdgdinaa", sum := "1119e055ee033e2aca4f3592bd5e9463fc825c19e910838e1b80a34198989fbd", func := "loop.example/g01315/laws.FnExactNextGiving", spec := "fnExactNextGiving", unfollowed := true, recurses := true, apart := false, narrowed := true }
def FnExactNextGivingUptoSaid : Prop := fnExactNextGivingUptoRow.holds Try.pinned (OpenSpec.upto fnExactNextGivingSpec)

end Rows
end Go.Proofs.Ytkccjedfdgdinaa
