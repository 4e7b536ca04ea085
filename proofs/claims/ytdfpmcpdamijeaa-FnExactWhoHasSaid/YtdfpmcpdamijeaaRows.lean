/-
  No cell of these rows narrows 'for every input' (looked for: loops, veiled, ifaces, maps, wideKeys, modest, calm, conditions, laid).
  DERIVED. THE GIVEN ROWS OF THIS SEAT. 11 by the template 'for every input the law returns true; each argument reads behind the call as it read before'; 0 by the template 'total and deterministic' (their statements: YtdfpmcpdamijeaaTotals.lean).
  GIVEN WITH THE SEED: the statements are not yours to turn. If you find one false, say at which input.
  Laid BY PROGRAM, IN A SANDBOX (cutbox-rows.mjs): the forced cells as the released guide's own fill.sh prints them over the translation 42966548f271ec4c… (all of the seat's roots in one cut). By AI agents, Wed Nov 11 2026. No macro, syntax, notation, axiom, sorry.
-/
import Derived.Test.YtdfpmcpdamijeaaChecked
import GoSem.Claim
import GoSem.ClaimJoined
import GoSem.ClaimMapViews
import Derived.JoinedTies
import Derived.KernelRfl
namespace Go.Proofs.Ytdfpmcpdamijeaa
/- THE CELL 'sum', in the pinned program and in every row, IS THE sha256 OF THE DUMP (.gsa) THAT YtdfpmcpdamijeaaProg.lean LOADS. Nothing in Lean hashes anything: it is a label: what it is worth is what the hold of that sum in a sandbox is worth. -/
noncomputable def Try.pinned : Pinned := { name := "ytdfpmcpdamijeaa", sum := "42966548f271ec4cb0abb08be755d684d0a6cd6b8ef9c63b62ff6aa04c438df3", checked := Try.checked }
namespace Rows
def none {H : Type} : Left H := { results := [], args := [] }

/-- 'laws.FnExactOwnCoats': WHATEVER THE INPUT: true; the input reads as it did. -/
def fnExactOwnCoatsSpec : ChangeSpec := { name := "fnExactOwnCoats", fn := fun _ => fun
  | [d] => { results := [.lit (.bool true)], args := [d] }
  | _ => none }
def fnExactOwnCoatsRow : OpenClaim := { program := "ytdfpmcpdamijeaa", sum := "42966548f271ec4cb0abb08be755d684d0a6cd6b8ef9c63b62ff6aa04c438df3", func := "loop.example/g01315/laws.FnExactOwnCoats", spec := "fnExactOwnCoats", apart := false }
def FnExactOwnCoatsSaid : Prop := fnExactOwnCoatsRow.holds Try.pinned (OpenSpec.ofChange fnExactOwnCoatsSpec)

/-- ITS FALSE NEIGHBOUR: 'it returns false'. Refute it at one input. -/
def fnExactOwnCoatsWrong : ChangeSpec := { name := "fnExactOwnCoats", fn := fun _ => fun
  | [d] => { results := [.lit (.bool false)], args := [d] }
  | _ => none }
def FnExactOwnCoatsWrongFalsely : Prop := fnExactOwnCoatsRow.holds Try.pinned (OpenSpec.ofChange fnExactOwnCoatsWrong)

/-- 'laws.FnExactWhoHas': WHATEVER THE INPUT: true; the input reads as it did. -/
def fnExactWhoHasSpec : ChangeSpec := { name := "fnExactWhoHas", fn := fun _ => fun
  | [d1, d2] => { results := [.lit (.bool true)], args := [d1, d2] }
  | _ => none }
def fnExactWhoHasRow : OpenClaim := { program := "ytdfpmcpdamijeaa", sum := "42966548f271ec4cb0abb08be755d684d0a6cd6b8ef9c63b62ff6aa04c438df3", func := "loop.example/g01315/laws.FnExactWhoHas", spec := "fnExactWhoHas", apart := false }
def FnExactWhoHasSaid : Prop := fnExactWhoHasRow.holds Try.pinned (OpenSpec.ofChange fnExactWhoHasSpec)

/-- ITS FALSE NEIGHBOUR: 'it returns false'. Refute it at one input. -/
def fnExactWhoHasWrong : ChangeSpec := { name := "fnExactWhoHas", fn := fun _ => fun
  | [d1, d2] => { results := [.lit (.bool false)], args := [d1, d2] }
  | _ => none }
def FnExactWhoHasWrongFalsely : Prop := fnExactWhoHasRow.holds Try.pinned (OpenSpec.ofChange fnExactWhoHasWrong)

/-- 'laws.FnExactBackExchange': WHATEVER THE INPUT: true; the input reads as it did. -/
def fnExactBackExchangeSpec : ChangeSpec := { name := "fnExactBackExchange", fn := fun _ => fun
  | [d] => { results := [.lit (.bool true)], args := [d] }
  | _ => none }
def fnExactBackExchangeRow : OpenClaim := { program := "ytdfpmcpdamijeaa", sum := "42966548f271ec4cb0abb08be755d684d0a6cd6b8ef9c63b62ff6aa04c438df3", func := "loop.example/g01315/laws.FnExactBackExchange", spec := "fnExactBackExchange", apart := false }
def FnExactBackExchangeSaid : Prop := fnExactBackExchangeRow.holds Try.pinned (OpenSpec.ofChange fnExactBackExchangeSpec)

/-- ITS FALSE NEIGHBOUR: 'it returns false'. Refute it at one input. -/
def fnExactBackExchangeWrong : ChangeSpec := { name := "fnExactBackExchange", fn := fun _ => fun
  | [d] => { results := [.lit (.bool false)], args := [d] }
  | _ => none }
def FnExactBackExchangeWrongFalsely : Prop := fnExactBackExchangeRow.holds Try.pinned (OpenSpec.ofChange fnExactBackExchangeWrong)

/-- 'laws.FnExactThenExchange': WHATEVER THE INPUT: true; the input reads as it did. -/
def fnExactThenExchangeSpec : ChangeSpec := { name := "fnExactThenExchange", fn := fun _ => fun
  | [d1, d2] => { results := [.lit (.bool true)], args := [d1, d2] }
  | _ => none }
def fnExactThenExchangeRow : OpenClaim := { program := "ytdfpmcpdamijeaa", sum := "42966548f271ec4cb0abb08be755d684d0a6cd6b8ef9c63b62ff6aa04c438df3", func := "loop.example/g01315/laws.FnExactThenExchange", spec := "fnExactThenExchange", apart := false }
def FnExactThenExchangeSaid : Prop := fnExactThenExchangeRow.holds Try.pinned (OpenSpec.ofChange fnExactThenExchangeSpec)

/-- ITS FALSE NEIGHBOUR: 'it returns false'. Refute it at one input. -/
def fnExactThenExchangeWrong : ChangeSpec := { name := "fnExactThenExchange", fn := fun _ => fun
  | [d1, d2] => { results := [.lit (.bool false)], args := [d1, d2] }
  | _ => none }
def FnExactThenExchangeWrongFalsely : Prop := fnExactThenExchangeRow.holds Try.pinned (OpenSpec.ofChange fnExactThenExchangeWrong)

/-- 'laws.FnExactSwapCoats': WHATEVER THE INPUT: true; the input reads as it did. -/
def fnExactSwapCoatsSpec : ChangeSpec := { name := "fnExactSwapCoats", fn := fun _ => fun
  | [d1, d2, d3] => { results := [.lit (.bool true)], args := [d1, d2, d3] }
  | _ => none }
def fnExactSwapCoatsRow : OpenClaim := { program := "ytdfpmcpdamijeaa", sum := "42966548f271ec4cb0abb08be755d684d0a6cd6b8ef9c63b62ff6aa04c438df3", func := "loop.example/g01315/laws.FnExactSwapCoats", spec := "fnExactSwapCoats", apart := false }
def FnExactSwapCoatsSaid : Prop := fnExactSwapCoatsRow.holds Try.pinned (OpenSpec.ofChange fnExactSwapCoatsSpec)

/-- ITS FALSE NEIGHBOUR: 'it returns false'. Refute it at one input. -/
def fnExactSwapCoatsWrong : ChangeSpec := { name := "fnExactSwapCoats", fn := fun _ => fun
  | [d1, d2, d3] => { results := [.lit (.bool false)], args := [d1, d2, d3] }
  | _ => none }
def FnExactSwapCoatsWrongFalsely : Prop := fnExactSwapCoatsRow.holds Try.pinned (OpenSpec.ofChange fnExactSwapCoatsWrong)

/-- 'laws.FnExactChainsOf': WHATEVER THE INPUT: true; the input reads as it did. -/
def fnExactChainsOfSpec : ChangeSpec := { name := "fnExactChainsOf", fn := fun _ => fun
  | [d] => { results := [.lit (.bool true)], args := [d] }
  | _ => none }
def fnExactChainsOfRow : OpenClaim := { program := "ytdfpmcpdamijeaa", sum := "42966548f271ec4cb0abb08be755d684d0a6cd6b8ef9c63b62ff6aa04c438df3", func := "loop.example/g01315/laws.FnExactChainsOf", spec := "fnExactChainsOf", unfollowed := true, recurses := true, apart := false }
def FnExactChainsOfSaid : Prop := fnExactChainsOfRow.holds Try.pinned (OpenSpec.ofChange fnExactChainsOfSpec)

/-- ITS FALSE NEIGHBOUR: 'it returns false'. Refute it at one input. -/
def fnExactChainsOfWrong : ChangeSpec := { name := "fnExactChainsOf", fn := fun _ => fun
  | [d] => { results := [.lit (.bool false)], args := [d] }
  | _ => none }
def FnExactChainsOfWrongFalsely : Prop := fnExactChainsOfRow.holds Try.pinned (OpenSpec.ofChange fnExactChainsOfWrong)

/-- 'laws.FnExactFewestSwaps': WHATEVER THE INPUT: true; the input reads as it did. -/
def fnExactFewestSwapsSpec : ChangeSpec := { name := "fnExactFewestSwaps", fn := fun _ => fun
  | [d] => { results := [.lit (.bool true)], args := [d] }
  | _ => none }
def fnExactFewestSwapsRow : OpenClaim := { program := "ytdfpmcpdamijeaa", sum := "42966548f271ec4cb0abb08be755d684d0a6cd6b8ef9c63b62ff6aa04c438df3", func := "loop.example/g01315/laws.FnExactFewestSwaps", spec := "fnExactFewestSwaps", apart := false }
def FnExactFewestSwapsSaid : Prop := fnExactFewestSwapsRow.holds Try.pinned (OpenSpec.ofChange fnExactFewestSwapsSpec)

/-- ITS FALSE NEIGHBOUR: 'it returns false'. Refute it at one input. -/
def fnExactFewestSwapsWrong : ChangeSpec := { name := "fnExactFewestSwaps", fn := fun _ => fun
  | [d] => { results := [.lit (.bool false)], args := [d] }
  | _ => none }
def FnExactFewestSwapsWrongFalsely : Prop := fnExactFewestSwapsRow.holds Try.pinned (OpenSpec.ofChange fnExactFewestSwapsWrong)

/-- 'laws.FnExactFirstSwaps': WHATEVER THE INPUT: true; the input reads as it did. -/
def fnExactFirstSwapsSpec : ChangeSpec := { name := "fnExactFirstSwaps", fn := fun _ => fun
  | [d] => { results := [.lit (.bool true)], args := [d] }
  | _ => none }
def fnExactFirstSwapsRow : OpenClaim := { program := "ytdfpmcpdamijeaa", sum := "42966548f271ec4cb0abb08be755d684d0a6cd6b8ef9c63b62ff6aa04c438df3", func := "loop.example/g01315/laws.FnExactFirstSwaps", spec := "fnExactFirstSwaps", apart := false }
def FnExactFirstSwapsSaid : Prop := fnExactFirstSwapsRow.holds Try.pinned (OpenSpec.ofChange fnExactFirstSwapsSpec)

/-- ITS FALSE NEIGHBOUR: 'it returns false'. Refute it at one input. -/
def fnExactFirstSwapsWrong : ChangeSpec := { name := "fnExactFirstSwaps", fn := fun _ => fun
  | [d] => { results := [.lit (.bool false)], args := [d] }
  | _ => none }
def FnExactFirstSwapsWrongFalsely : Prop := fnExactFirstSwapsRow.holds Try.pinned (OpenSpec.ofChange fnExactFirstSwapsWrong)

/-- 'laws.FnExactTimesToRight': WHATEVER THE INPUT: true; the input reads as it did. -/
def fnExactTimesToRightSpec : ChangeSpec := { name := "fnExactTimesToRight", fn := fun _ => fun
  | [d] => { results := [.lit (.bool true)], args := [d] }
  | _ => none }
def fnExactTimesToRightRow : OpenClaim := { program := "ytdfpmcpdamijeaa", sum := "42966548f271ec4cb0abb08be755d684d0a6cd6b8ef9c63b62ff6aa04c438df3", func := "loop.example/g01315/laws.FnExactTimesToRight", spec := "fnExactTimesToRight", unfollowed := true, recurses := true, apart := false }
def FnExactTimesToRightSaid : Prop := fnExactTimesToRightRow.holds Try.pinned (OpenSpec.ofChange fnExactTimesToRightSpec)

/-- ITS FALSE NEIGHBOUR: 'it returns false'. Refute it at one input. -/
def fnExactTimesToRightWrong : ChangeSpec := { name := "fnExactTimesToRight", fn := fun _ => fun
  | [d] => { results := [.lit (.bool false)], args := [d] }
  | _ => none }
def FnExactTimesToRightWrongFalsely : Prop := fnExactTimesToRightRow.holds Try.pinned (OpenSpec.ofChange fnExactTimesToRightWrong)

/-- 'laws.FnExactNextNone': WHATEVER THE INPUT: true; the input reads as it did. -/
def fnExactNextNoneSpec : ChangeSpec := { name := "fnExactNextNone", fn := fun _ => fun
  | [d] => { results := [.lit (.bool true)], args := [d] }
  | _ => none }
def fnExactNextNoneRow : OpenClaim := { program := "ytdfpmcpdamijeaa", sum := "42966548f271ec4cb0abb08be755d684d0a6cd6b8ef9c63b62ff6aa04c438df3", func := "loop.example/g01315/laws.FnExactNextNone", spec := "fnExactNextNone", apart := false }
def FnExactNextNoneSaid : Prop := fnExactNextNoneRow.holds Try.pinned (OpenSpec.ofChange fnExactNextNoneSpec)

/-- ITS FALSE NEIGHBOUR: 'it returns false'. Refute it at one input. -/
def fnExactNextNoneWrong : ChangeSpec := { name := "fnExactNextNone", fn := fun _ => fun
  | [d] => { results := [.lit (.bool false)], args := [d] }
  | _ => none }
def FnExactNextNoneWrongFalsely : Prop := fnExactNextNoneRow.holds Try.pinned (OpenSpec.ofChange fnExactNextNoneWrong)

/-- 'laws.FnExactRankOfNone': WHATEVER THE INPUT: true; the input reads as it did. -/
def fnExactRankOfNoneSpec : ChangeSpec := { name := "fnExactRankOfNone", fn := fun _ => fun
  | [d] => { results := [.lit (.bool true)], args := [d] }
  | _ => none }
def fnExactRankOfNoneRow : OpenClaim := { program := "ytdfpmcpdamijeaa", sum := "42966548f271ec4cb0abb08be755d684d0a6cd6b8ef9c63b62ff6aa04c438df3", func := "loop.example/g01315/laws.FnExactRankOfNone", spec := "fnExactRankOfNone", apart := false }
def FnExactRankOfNoneSaid : Prop := fnExactRankOfNoneRow.holds Try.pinned (OpenSpec.ofChange fnExactRankOfNoneSpec)

/-- ITS FALSE NEIGHBOUR: 'it returns false'. Refute it at one input. -/
def fnExactRankOfNoneWrong : ChangeSpec := { name := "fnExactRankOfNone", fn := fun _ => fun
  | [d] => { results := [.lit (.bool false)], args := [d] }
  | _ => none }
def FnExactRankOfNoneWrongFalsely : Prop := fnExactRankOfNoneRow.holds Try.pinned (OpenSpec.ofChange fnExactRankOfNoneWrong)

/- THE SECOND FORM. 'bulk': how many values and letters a reading holds, each counted each time it is reached (what is shared counts as often as it is met; a slice's spare places count too). A statement '..UptoSaid' is the law's where the arguments, and the package variables that the reading takes, are together of bulk at most 1048576: NARROWER than '..Said'. Prove '..Said' where nothing that the law and all that it calls make is longer than what came in: it says more and counts as full. Else prove '..UptoSaid'. A law counts once. -/
mutual
def uptoBulk {H : Type} : DataW H → Nat
  | .lit (.string bytes) => bytes.length + 1
  | .lit _ => 1
  | .nil => 1
  | .ptr d => uptoBulk d + 1
  | .slice elems spare => uptoBulkAll elems + uptoBulkAll spare + 1
  | .agg parts => uptoBulkAll parts + 1
  | .iface _ d => uptoBulk d + 1
  | .map entries => uptoBulkEntries entries + 1
  | .held _ => 1
def uptoBulkAll {H : Type} : List (DataW H) → Nat
  | [] => 0
  | d :: r => uptoBulk d + uptoBulkAll r
def uptoBulkEntries {H : Type} : List (Lit × DataW H) → Nat
  | [] => 0
  | x :: r => uptoBulkEntry x + uptoBulkEntries r
def uptoBulkEntry {H : Type} : Lit × DataW H → Nat
  | (.string bytes, d) => bytes.length + uptoBulk d + 1
  | (_, d) => uptoBulk d + 1
 end
def uptoSmall : (H : Type) → List (DataW H) → Bool := fun _ ds => decide (uptoBulkAll ds ≤ 1048576)
def OpenSpec.upto (s : _root_.Go.ChangeSpec) : _root_.Go.OpenSpec := { _root_.Go.OpenSpec.ofChange s with cond := some uptoSmall }

/-- 'laws.FnExactOwnCoats', WHERE WHAT IT READS IS OF BULK AT MOST 1048576: true; the input reads as it did. -/
def fnExactOwnCoatsUptoRow : OpenClaim := { program := "ytdfpmcpdamijeaa", sum := "42966548f271ec4cb0abb08be755d684d0a6cd6b8ef9c63b62ff6aa04c438df3", func := "loop.example/g01315/laws.FnExactOwnCoats", spec := "fnExactOwnCoats", apart := false, narrowed := true }
def FnExactOwnCoatsUptoSaid : Prop := fnExactOwnCoatsUptoRow.holds Try.pinned (OpenSpec.upto fnExactOwnCoatsSpec)

/-- 'laws.FnExactWhoHas', WHERE WHAT IT READS IS OF BULK AT MOST 1048576: true; the input reads as it did. -/
def fnExactWhoHasUptoRow : OpenClaim := { program := "ytdfpmcpdamijeaa", sum := "42966548f271ec4cb0abb08be755d684d0a6cd6b8ef9c63b62ff6aa04c438df3", func := "loop.example/g01315/laws.FnExactWhoHas", spec := "fnExactWhoHas", apart := false, narrowed := true }
def FnExactWhoHasUptoSaid : Prop := fnExactWhoHasUptoRow.holds Try.pinned (OpenSpec.upto fnExactWhoHasSpec)

/-- 'laws.FnExactBackExchange', WHERE WHAT IT READS IS OF BULK AT MOST 1048576: true; the input reads as it did. -/
def fnExactBackExchangeUptoRow : OpenClaim := { program := "ytdfpmcpdamijeaa", sum := "42966548f271ec4cb0abb08be755d684d0a6cd6b8ef9c63b62ff6aa04c438df3", func := "loop.example/g01315/laws.FnExactBackExchange", spec := "fnExactBackExchange", apart := false, narrowed := true }
def FnExactBackExchangeUptoSaid : Prop := fnExactBackExchangeUptoRow.holds Try.pinned (OpenSpec.upto fnExactBackExchangeSpec)

/-- 'laws.FnExactThenExchange', WHERE WHAT IT READS IS OF BULK AT MOST 1048576: true; the input reads as it did. -/
def fnExactThenExchangeUptoRow : OpenClaim := { program := "ytdfpmcpdamijeaa", sum := "42966548f271ec4cb0abb08be755d684d0a6cd6b8ef9c63b62ff6aa04c438df3", func := "loop.example/g01315/laws.FnExactThenExchange", spec := "fnExactThenExchange", apart := false, narrowed := true }
def FnExactThenExchangeUptoSaid : Prop := fnExactThenExchangeUptoRow.holds Try.pinned (OpenSpec.upto fnExactThenExchangeSpec)

/-- 'laws.FnExactSwapCoats', WHERE WHAT IT READS IS OF BULK AT MOST 1048576: true; the input reads as it did. -/
def fnExactSwapCoatsUptoRow : OpenClaim := { program := "ytdfpmcpdamijeaa", sum := "42966548f271ec4cb0abb08be755d684d0a6cd6b8ef9c63b62ff6aa04c438df3", func := "loop.example/g01315/laws.FnExactSwapCoats", spec := "fnExactSwapCoats", apart := false, narrowed := true }
def FnExactSwapCoatsUptoSaid : Prop := fnExactSwapCoatsUptoRow.holds Try.pinned (OpenSpec.upto fnExactSwapCoatsSpec)

/-- 'laws.FnExactChainsOf', WHERE WHAT IT READS IS OF BULK AT MOST 1048576: true; the input reads as it did. -/
def fnExactChainsOfUptoRow : OpenClaim := { program := "ytdfpmcpdamijeaa", sum := "42966548f271ec4cb0abb08be755d684d0a6cd6b8ef9c63b62ff6aa04c438df3", func := "loop.example/g01315/laws.FnExactChainsOf", spec := "fnExactChainsOf", unfollowed := true, recurses := true, apart := false, narrowed := true }
def FnExactChainsOfUptoSaid : Prop := fnExactChainsOfUptoRow.holds Try.pinned (OpenSpec.upto fnExactChainsOfSpec)

/-- 'laws.FnExactFewestSwaps', WHERE WHAT IT READS IS OF BULK AT MOST 1048576: true; the input reads as it did. -/
def fnExactFewestSwapsUptoRow : OpenClaim := { program := "ytdfpmcpdamijeaa", sum := "42966548f271ec4cb0abb08be755d684d0a6cd6b8ef9c63b62ff6aa04c438df3", func := "loop.example/g01315/laws.FnExactFewestSwaps", spec := "fnExactFewestSwaps", apart := false, narrowed := true }
def FnExactFewestSwapsUptoSaid : Prop := fnExactFewestSwapsUptoRow.holds Try.pinned (OpenSpec.upto fnExactFewestSwapsSpec)

/-- 'laws.FnExactFirstSwaps', WHERE WHAT IT READS IS OF BULK AT MOST 1048576: true; the input reads as it did. -/
def fnExactFirstSwapsUptoRow : OpenClaim := { program := "ytdfpmcpdamijeaa", sum := "42966548f271ec4cb0abb08be755d684d0a6cd6b8ef9c63b62ff6aa04c438df3", func := "loop.example/g01315/laws.FnExactFirstSwaps", spec := "fnExactFirstSwaps", apart := false, narrowed := true }
def FnExactFirstSwapsUptoSaid : Prop := fnExactFirstSwapsUptoRow.holds Try.pinned (OpenSpec.upto fnExactFirstSwapsSpec)

/-- 'laws.FnExactTimesToRight', WHERE WHAT IT READS IS OF BULK AT MOST 1048576: true; the input reads as it did. -/
def fnExactTimesToRightUptoRow : OpenClaim := { program := "ytdfpmcpdamijeaa", sum := "42966548f271ec4cb0abb08be755d684d0a6cd6b8ef9c63b62ff6aa04c438df3", func := "loop.example/g01315/laws.FnExactTimesToRight", spec := "fnExactTimesToRight", unfollowed := true, recurses := true, apart := false, narrowed := true }
def FnExactTimesToRightUptoSaid : Prop := fnExactTimesToRightUptoRow.holds Try.pinned (OpenSpec.upto fnExactTimesToRightSpec)

/-- 'laws.FnExactNextNone', WHERE WHAT IT READS IS OF BULK AT MOST 1048576: true; the input reads as it did. -/
def fnExactNextNoneUptoRow : OpenClaim := { program := "ytdfpmcpdamijeaa", sum := "42966548f271ec4cb0abb08be755d684d0a6cd6b8ef9c63b62ff6aa04c438df3", func := "loop.example/g01315/laws.FnExactNextNone", spec := "fnExactNextNone", apart := false, narrowed := true }
def FnExactNextNoneUptoSaid : Prop := fnExactNextNoneUptoRow.holds Try.pinned (OpenSpec.upto fnExactNextNoneSpec)

/-- 'laws.FnExactRankOfNone', WHERE WHAT IT READS IS OF BULK AT MOST 1048576: true; the input reads as it did. -/
def fnExactRankOfNoneUptoRow : OpenClaim := { program := "ytdfpmcpdamijeaa", sum := "42966548f271ec4cb0abb08be755d684d0a6cd6b8ef9c63b62ff6aa04c438df3", func := "loop.example/g01315/laws.FnExactRankOfNone", spec := "fnExactRankOfNone", apart := false, narrowed := true }
def FnExactRankOfNoneUptoSaid : Prop := fnExactRankOfNoneUptoRow.holds Try.pinned (OpenSpec.upto fnExactRankOfNoneSpec)

end Rows
end Go.Proofs.Ytdfpmcpdamijeaa
