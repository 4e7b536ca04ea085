/-
  No cell of these rows narrows 'for every input' (looked for: loops, veiled, ifaces, maps, wideKeys, modest, calm, conditions, laid).
  DERIVED. THE GIVEN ROWS OF THIS SEAT. 7 by the template 'for every input the law returns true; each argument reads behind the call as it read before'; 0 by the template 'total and deterministic' (their statements: YtniajmlfdedbgaaTotals.lean).
  GIVEN WITH THE SEED: the statements are not yours to turn. If you find one false, say at which input.
  Laid BY PROGRAM, IN A SANDBOX (cutbox-rows.mjs): the forced cells as the released guide's own fill.sh prints them over the translation c4ff7e4c956cc43c… (all of the seat's roots in one cut). By AI agents, Wed Nov 11 2026. No macro, syntax, notation, axiom, sorry.
-/
import Derived.Test.YtniajmlfdedbgaaChecked
import GoSem.Claim
import GoSem.ClaimJoined
import GoSem.ClaimMapViews
import Derived.JoinedTies
import Derived.KernelRfl
namespace Go.Proofs.Ytniajmlfdedbgaa
/- THE CELL 'sum', in the pinned program and in every row, IS THE sha256 OF THE DUMP (.gsa) THAT YtniajmlfdedbgaaProg.lean LOADS. Nothing in Lean hashes anything: it is a label: what it is worth is what the hold of that sum in a sandbox is worth. -/
noncomputable def Try.pinned : Pinned := { name := "ytniajmlfdedbgaa", sum := "c4ff7e4c956cc43c33f0f73a3b0e6f1e8d7c027e879c137a26dc29310c13cf1f", checked := Try.checked }
namespace Rows
def none {H : Type} : Left H := { results := [], args := [] }

/-- 'laws.FnExactOpenedBy': WHATEVER THE INPUT: true; the input reads as it did. -/
def fnExactOpenedBySpec : ChangeSpec := { name := "fnExactOpenedBy", fn := fun _ => fun
  | [d1, d2, d3] => { results := [.lit (.bool true)], args := [d1, d2, d3] }
  | _ => none }
def fnExactOpenedByRow : OpenClaim := { program := "ytniajmlfdedbgaa", sum := "c4ff7e4c956cc43c33f0f73a3b0e6f1e8d7c027e879c137a26dc29310c13cf1f", func := "loop.example/g01315/laws.FnExactOpenedBy", spec := "fnExactOpenedBy", apart := false }
def FnExactOpenedBySaid : Prop := fnExactOpenedByRow.holds Try.pinned (OpenSpec.ofChange fnExactOpenedBySpec)

/-- ITS FALSE NEIGHBOUR: 'it returns false'. Refute it at one input. -/
def fnExactOpenedByWrong : ChangeSpec := { name := "fnExactOpenedBy", fn := fun _ => fun
  | [d1, d2, d3] => { results := [.lit (.bool false)], args := [d1, d2, d3] }
  | _ => none }
def FnExactOpenedByWrongFalsely : Prop := fnExactOpenedByRow.holds Try.pinned (OpenSpec.ofChange fnExactOpenedByWrong)

/-- 'laws.FnExactTriesToFind': WHATEVER THE INPUT: true; the input reads as it did. -/
def fnExactTriesToFindSpec : ChangeSpec := { name := "fnExactTriesToFind", fn := fun _ => fun
  | [d] => { results := [.lit (.bool true)], args := [d] }
  | _ => none }
def fnExactTriesToFindRow : OpenClaim := { program := "ytniajmlfdedbgaa", sum := "c4ff7e4c956cc43c33f0f73a3b0e6f1e8d7c027e879c137a26dc29310c13cf1f", func := "loop.example/g01315/laws.FnExactTriesToFind", spec := "fnExactTriesToFind", unfollowed := true, recurses := true, apart := false }
def FnExactTriesToFindSaid : Prop := fnExactTriesToFindRow.holds Try.pinned (OpenSpec.ofChange fnExactTriesToFindSpec)

/-- ITS FALSE NEIGHBOUR: 'it returns false'. Refute it at one input. -/
def fnExactTriesToFindWrong : ChangeSpec := { name := "fnExactTriesToFind", fn := fun _ => fun
  | [d] => { results := [.lit (.bool false)], args := [d] }
  | _ => none }
def FnExactTriesToFindWrongFalsely : Prop := fnExactTriesToFindRow.holds Try.pinned (OpenSpec.ofChange fnExactTriesToFindWrong)

/-- 'laws.FnExactDoAllFind': WHATEVER THE INPUT: true; the input reads as it did. -/
def fnExactDoAllFindSpec : ChangeSpec := { name := "fnExactDoAllFind", fn := fun _ => fun
  | [d1, d2] => { results := [.lit (.bool true)], args := [d1, d2] }
  | _ => none }
def fnExactDoAllFindRow : OpenClaim := { program := "ytniajmlfdedbgaa", sum := "c4ff7e4c956cc43c33f0f73a3b0e6f1e8d7c027e879c137a26dc29310c13cf1f", func := "loop.example/g01315/laws.FnExactDoAllFind", spec := "fnExactDoAllFind", unfollowed := true, recurses := true, apart := false }
def FnExactDoAllFindSaid : Prop := fnExactDoAllFindRow.holds Try.pinned (OpenSpec.ofChange fnExactDoAllFindSpec)

/-- ITS FALSE NEIGHBOUR: 'it returns false'. Refute it at one input. -/
def fnExactDoAllFindWrong : ChangeSpec := { name := "fnExactDoAllFind", fn := fun _ => fun
  | [d1, d2] => { results := [.lit (.bool false)], args := [d1, d2] }
  | _ => none }
def FnExactDoAllFindWrongFalsely : Prop := fnExactDoAllFindRow.holds Try.pinned (OpenSpec.ofChange fnExactDoAllFindWrong)

/-- 'laws.FnExactBestSwap': WHATEVER THE INPUT: true; the input reads as it did. -/
def fnExactBestSwapSpec : ChangeSpec := { name := "fnExactBestSwap", fn := fun _ => fun
  | [d] => { results := [.lit (.bool true)], args := [d] }
  | _ => none }
def fnExactBestSwapRow : OpenClaim := { program := "ytniajmlfdedbgaa", sum := "c4ff7e4c956cc43c33f0f73a3b0e6f1e8d7c027e879c137a26dc29310c13cf1f", func := "loop.example/g01315/laws.FnExactBestSwap", spec := "fnExactBestSwap", unfollowed := true, recurses := true, apart := false }
def FnExactBestSwapSaid : Prop := fnExactBestSwapRow.holds Try.pinned (OpenSpec.ofChange fnExactBestSwapSpec)

/-- ITS FALSE NEIGHBOUR: 'it returns false'. Refute it at one input. -/
def fnExactBestSwapWrong : ChangeSpec := { name := "fnExactBestSwap", fn := fun _ => fun
  | [d] => { results := [.lit (.bool false)], args := [d] }
  | _ => none }
def FnExactBestSwapWrongFalsely : Prop := fnExactBestSwapRow.holds Try.pinned (OpenSpec.ofChange fnExactBestSwapWrong)

/-- 'laws.FnExactChainPlan': WHATEVER THE INPUT: true; the input reads as it did. -/
def fnExactChainPlanSpec : ChangeSpec := { name := "fnExactChainPlan", fn := fun _ => fun
  | [d1, d2] => { results := [.lit (.bool true)], args := [d1, d2] }
  | _ => none }
def fnExactChainPlanRow : OpenClaim := { program := "ytniajmlfdedbgaa", sum := "c4ff7e4c956cc43c33f0f73a3b0e6f1e8d7c027e879c137a26dc29310c13cf1f", func := "loop.example/g01315/laws.FnExactChainPlan", spec := "fnExactChainPlan", apart := false }
def FnExactChainPlanSaid : Prop := fnExactChainPlanRow.holds Try.pinned (OpenSpec.ofChange fnExactChainPlanSpec)

/-- ITS FALSE NEIGHBOUR: 'it returns false'. Refute it at one input. -/
def fnExactChainPlanWrong : ChangeSpec := { name := "fnExactChainPlan", fn := fun _ => fun
  | [d1, d2] => { results := [.lit (.bool false)], args := [d1, d2] }
  | _ => none }
def FnExactChainPlanWrongFalsely : Prop := fnExactChainPlanRow.holds Try.pinned (OpenSpec.ofChange fnExactChainPlanWrong)

/-- 'laws.FnExactShiftDrawers': WHATEVER THE INPUT: true; the input reads as it did. -/
def fnExactShiftDrawersSpec : ChangeSpec := { name := "fnExactShiftDrawers", fn := fun _ => fun
  | [d1, d2] => { results := [.lit (.bool true)], args := [d1, d2] }
  | _ => none }
def fnExactShiftDrawersRow : OpenClaim := { program := "ytniajmlfdedbgaa", sum := "c4ff7e4c956cc43c33f0f73a3b0e6f1e8d7c027e879c137a26dc29310c13cf1f", func := "loop.example/g01315/laws.FnExactShiftDrawers", spec := "fnExactShiftDrawers", apart := false }
def FnExactShiftDrawersSaid : Prop := fnExactShiftDrawersRow.holds Try.pinned (OpenSpec.ofChange fnExactShiftDrawersSpec)

/-- ITS FALSE NEIGHBOUR: 'it returns false'. Refute it at one input. -/
def fnExactShiftDrawersWrong : ChangeSpec := { name := "fnExactShiftDrawers", fn := fun _ => fun
  | [d1, d2] => { results := [.lit (.bool false)], args := [d1, d2] }
  | _ => none }
def FnExactShiftDrawersWrongFalsely : Prop := fnExactShiftDrawersRow.holds Try.pinned (OpenSpec.ofChange fnExactShiftDrawersWrong)

/-- 'laws.FnExactIsExchange': WHATEVER THE INPUT: true; the input reads as it did. -/
def fnExactIsExchangeSpec : ChangeSpec := { name := "fnExactIsExchange", fn := fun _ => fun
  | [d] => { results := [.lit (.bool true)], args := [d] }
  | _ => none }
def fnExactIsExchangeRow : OpenClaim := { program := "ytniajmlfdedbgaa", sum := "c4ff7e4c956cc43c33f0f73a3b0e6f1e8d7c027e879c137a26dc29310c13cf1f", func := "loop.example/g01315/laws.FnExactIsExchange", spec := "fnExactIsExchange", apart := false }
def FnExactIsExchangeSaid : Prop := fnExactIsExchangeRow.holds Try.pinned (OpenSpec.ofChange fnExactIsExchangeSpec)

/-- ITS FALSE NEIGHBOUR: 'it returns false'. Refute it at one input. -/
def fnExactIsExchangeWrong : ChangeSpec := { name := "fnExactIsExchange", fn := fun _ => fun
  | [d] => { results := [.lit (.bool false)], args := [d] }
  | _ => none }
def FnExactIsExchangeWrongFalsely : Prop := fnExactIsExchangeRow.holds Try.pinned (OpenSpec.ofChange fnExactIsExchangeWrong)

/- THE SECOND FORM. 'bulk': how many values and letters a reading holds, each counted each time it is reached (what is shared counts as often as it is met; a slice's spare places count too). A statement '..UptoSaid' is the law's where the arguments, and the package variables that the reading takes, are together of bulk at most 1048576: NARROWER than '..Said'. Prove '..Said' where nothing that the law and all that it calls make is longer than what came in: it says more and counts as full. Else prove '..UptoSaid'. A law counts once. -/
mutual
def uptoBulk {H : Type} : DataW H → Nat
  | .lit (.string bytes) => bytes.length + 1
  | .lit _ => 1
  | .nil => 1
  | .ptr d => uptoBulk d + 1
  | .slice elems spare => uptoBulkAll elems + uptoBulkAll spare + 1
  | .agg parts => uptoBulkAll parts + 1
  | .iface _ d => uptoBulk d + 1
  | .map entries => uptoBulkEntries entries + 1
  | .held _ => 1
def uptoBulkAll {H : Type} : List (DataW H) → Nat
  | [] => 0
  | d :: r => uptoBulk d + uptoBulkAll r
def uptoBulkEntries {H : Type} : List (Lit × DataW H) → Nat
  | [] => 0
  | x :: r => uptoBulkEntry x + uptoBulkEntries r
def uptoBulkEntry {H : Type} : Lit × DataW H → Nat
  | (.string bytes, d) => bytes.length + uptoBulk d + 1
  | (_, d) => uptoBulk d + 1
 end
def uptoSmall : (H : Type) → List (DataW H) → Bool := fun _ ds => decide (uptoBulkAll ds ≤ 1048576)
def OpenSpec.upto (s : _root_.Go.ChangeSpec) : _root_.Go.OpenSpec := { _root_.Go.OpenSpec.ofChange s with cond := some uptoSmall }

/-- 'laws.FnExactOpenedBy', WHERE WHAT IT READS IS OF BULK AT MOST 1048576: true; the input reads as it did. -/
def fnExactOpenedByUptoRow : OpenClaim := { program := "ytniajmlfdedbgaa", sum := "c4ff7e4c956cc43c33f0f73a3b0e6f1e8d7c027e879c137a26dc29310c13cf1f", func := "loop.example/g01315/laws.FnExactOpenedBy", spec := "fnExactOpenedBy", apart := false, narrowed := true }
def FnExactOpenedByUptoSaid : Prop := fnExactOpenedByUptoRow.holds Try.pinned (OpenSpec.upto fnExactOpenedBySpec)

/-- 'laws.FnExactTriesToFind', WHERE WHAT IT READS IS OF BULK AT MOST 1048576: true; the input reads as it did. -/
def fnExactTriesToFindUptoRow : OpenClaim := { program := "ytniajmlfdedbgaa", sum := "c4ff7e4c956cc43c33f0f73a3b0e6f1e8d7c027e879c137a26dc29310c13cf1f", func := "loop.example/g01315/laws.FnExactTriesToFind", spec := "fnExactTriesToFind", unfollowed := true, recurses := true, apart := false, narrowed := true }
def FnExactTriesToFindUptoSaid : Prop := fnExactTriesToFindUptoRow.holds Try.pinned (OpenSpec.upto fnExactTriesToFindSpec)

/-- 'laws.FnExactDoAllFind', WHERE WHAT IT READS IS OF BULK AT MOST 1048576: true; the input reads as it did. -/
def fnExactDoAllFindUptoRow : OpenClaim := { program := "ytniajmlfdedbgaa", sum := "c4ff7e4c956cc43c33f0f73a3b0e6f1e8d7c027e879c137a26dc29310c13cf1f", func := "loop.example/g01315/laws.FnExactDoAllFind", spec := "fnExactDoAllFind", unfollowed := true, recurses := true, apart := false, narrowed := true }
def FnExactDoAllFindUptoSaid : Prop := fnExactDoAllFindUptoRow.holds Try.pinned (OpenSpec.upto fnExactDoAllFindSpec)

/-- 'laws.FnExactBestSwap', WHERE WHAT IT READS IS OF BULK AT MOST 1048576: true; the input reads as it did. -/
def fnExactBestSwapUptoRow : OpenClaim := { program := "ytniajmlfdedbgaa", sum := "c4ff7e4c956cc43c33f0f73a3b0e6f1e8d7c027e879c137a26dc29310c13cf1f", func := "loop.example/g01315/laws.FnExactBestSwap", spec := "fnExactBestSwap", unfollowed := true, recurses := true, apart := false, narrowed := true }
def FnExactBestSwapUptoSaid : Prop := fnExactBestSwapUptoRow.holds Try.pinned (OpenSpec.upto fnExactBestSwapSpec)

/-- 'laws.FnExactChainPlan', WHERE WHAT IT READS IS OF BULK AT MOST 1048576: true; the input reads as it did. -/
def fnExactChainPlanUptoRow : OpenClaim := { program := "ytniajmlfdedbgaa", sum := "c4ff7e4c956cc43c33f0f73a3b0e6f1e8d7c027e879c137a26dc29310c13cf1f", func := "loop.example/g01315/laws.FnExactChainPlan", spec := "fnExactChainPlan", apart := false, narrowed := true }
def FnExactChainPlanUptoSaid : Prop := fnExactChainPlanUptoRow.holds Try.pinned (OpenSpec.upto fnExactChainPlanSpec)

/-- 'laws.FnExactShiftDrawers', WHERE WHAT IT READS IS OF BULK AT MOST 1048576: true; the input reads as it did. -/
def fnExactShiftDrawersUptoRow : OpenClaim := { program := "ytniajmlfdedbgaa", sum := "c4ff7e4c956cc43c33f0f73a3b0e6f1e8d7c027e879c137a26dc29310c13cf1f", func := "loop.example/g01315/laws.FnExactShiftDrawers", spec := "fnExactShiftDrawers", apart := false, narrowed := true }
def FnExactShiftDrawersUptoSaid : Prop := fnExactShiftDrawersUptoRow.holds Try.pinned (OpenSpec.upto fnExactShiftDrawersSpec)

/-- 'laws.FnExactIsExchange', WHERE WHAT IT READS IS OF BULK AT MOST 1048576: true; the input reads as it did. -/
def fnExactIsExchangeUptoRow : OpenClaim := { program := "ytniajmlfdedbgaa", sum := "c4ff7e4c956cc43c33f0f73a3b0e6f1e8d7c027e879c137a26dc29310c13cf1f", func := "loop.example/g01315/laws.FnExactIsExchange", spec := "fnExactIsExchange", apart := false, narrowed := true }
def FnExactIsExchangeUptoSaid : Prop := fnExactIsExchangeUptoRow.holds Try.pinned (OpenSpec.upto fnExactIsExchangeSpec)

end Rows
end Go.Proofs.Ytniajmlfdedbgaa
