/-
  No cell of these rows narrows 'for every input' (looked for: loops, veiled, ifaces, maps, wideKeys, modest, calm, conditions, laid).
  DERIVED. THE GIVEN ROWS OF THIS SEAT. 4 by the template 'for every input the law returns true; each argument reads behind the call as it read before'; 0 by the template 'total and deterministic' (their statements: YtkciccbpjdaekaaTotals.lean).
  GIVEN WITH THE SEED: the statements are not yours to turn. If you find one false, say at which input.
  Laid BY PROGRAM, IN A SANDBOX (cutbox-rows.mjs): the forced cells as the released guide's own fill.sh prints them over the translation 399f497b94ef656e… (all of the seat's roots in one cut). By AI agents, Wed Nov 11 2026. No macro, syntax, notation, axiom, sorry.
-/
import Derived.Test.YtkciccbpjdaekaaChecked
import GoSem.Claim
import GoSem.ClaimJoined
import GoSem.ClaimMapViews
import Derived.JoinedTies
import Derived.KernelRfl
namespace Go.Proofs.Ytkciccbpjdaekaa
/- THE CELL 'sum', in the pinned program and in every row, IS THE sha256 OF THE DUMP (.gsa) THAT YtkciccbpjdaekaaProg.lean LOADS. Nothing in Lean hashes anything: it is a label: what it is worth is what the hold of that sum in a sandbox is worth. -/
noncomputable def Try.pinned : Pinned := { name := "ytkciccbpjdaekaa", sum := "399f497b94ef656ea73ebf33bcc4cd4e9cf56756c059c54f6d5fffd7487a07c0", checked := Try.checked }
namespace Rows
def none {H : Type} : Left H := { results := [], args := [] }

/-- 'laws.FnExactAllSeatings': WHATEVER THE INPUT: true; the input reads as it did. -/
def fnExactAllSeatingsSpec : ChangeSpec := { name := "fnExactAllSeatings", fn := fun _ => fun
  | [d1, d2] => { results := [.lit (.bool true)], args := [d1, d2] }
  | _ => none }
def fnExactAllSeatingsRow : OpenClaim := { program := "ytkciccbpjdaekaa", sum := "399f497b94ef656ea73ebf33bcc4cd4e9cf56756c059c54f6d5fffd7487a07c0", func := "loop.example/g01315/laws.FnExactAllSeatings", spec := "fnExactAllSeatings", unfollowed := true, recurses := true, apart := false }
def FnExactAllSeatingsSaid : Prop := fnExactAllSeatingsRow.holds Try.pinned (OpenSpec.ofChange fnExactAllSeatingsSpec)

/-- ITS FALSE NEIGHBOUR: 'it returns false'. Refute it at one input. -/
def fnExactAllSeatingsWrong : ChangeSpec := { name := "fnExactAllSeatings", fn := fun _ => fun
  | [d1, d2] => { results := [.lit (.bool false)], args := [d1, d2] }
  | _ => none }
def FnExactAllSeatingsWrongFalsely : Prop := fnExactAllSeatingsRow.holds Try.pinned (OpenSpec.ofChange fnExactAllSeatingsWrong)

/-- 'laws.FnExactLikeliestSeatings': WHATEVER THE INPUT: true; the input reads as it did. -/
def fnExactLikeliestSeatingsSpec : ChangeSpec := { name := "fnExactLikeliestSeatings", fn := fun _ => fun
  | [d1, d2] => { results := [.lit (.bool true)], args := [d1, d2] }
  | _ => none }
def fnExactLikeliestSeatingsRow : OpenClaim := { program := "ytkciccbpjdaekaa", sum := "399f497b94ef656ea73ebf33bcc4cd4e9cf56756c059c54f6d5fffd7487a07c0", func := "loop.example/g01315/laws.FnExactLikeliestSeatings", spec := "fnExactLikeliestSeatings", unfollowed := true, recurses := true, apart := false }
def FnExactLikeliestSeatingsSaid : Prop := fnExactLikeliestSeatingsRow.holds Try.pinned (OpenSpec.ofChange fnExactLikeliestSeatingsSpec)

/-- ITS FALSE NEIGHBOUR: 'it returns false'. Refute it at one input. -/
def fnExactLikeliestSeatingsWrong : ChangeSpec := { name := "fnExactLikeliestSeatings", fn := fun _ => fun
  | [d1, d2] => { results := [.lit (.bool false)], args := [d1, d2] }
  | _ => none }
def FnExactLikeliestSeatingsWrongFalsely : Prop := fnExactLikeliestSeatingsRow.holds Try.pinned (OpenSpec.ofChange fnExactLikeliestSeatingsWrong)

/-- 'laws.FnExactCountDisplaced': WHATEVER THE INPUT: true; the input reads as it did. -/
def fnExactCountDisplacedSpec : ChangeSpec := { name := "fnExactCountDisplaced", fn := fun _ => fun
  | [d1, d2, d3] => { results := [.lit (.bool true)], args := [d1, d2, d3] }
  | _ => none }
def fnExactCountDisplacedRow : OpenClaim := { program := "ytkciccbpjdaekaa", sum := "399f497b94ef656ea73ebf33bcc4cd4e9cf56756c059c54f6d5fffd7487a07c0", func := "loop.example/g01315/laws.FnExactCountDisplaced", spec := "fnExactCountDisplaced", unfollowed := true, recurses := true, apart := false }
def FnExactCountDisplacedSaid : Prop := fnExactCountDisplacedRow.holds Try.pinned (OpenSpec.ofChange fnExactCountDisplacedSpec)

/-- ITS FALSE NEIGHBOUR: 'it returns false'. Refute it at one input. -/
def fnExactCountDisplacedWrong : ChangeSpec := { name := "fnExactCountDisplaced", fn := fun _ => fun
  | [d1, d2, d3] => { results := [.lit (.bool false)], args := [d1, d2, d3] }
  | _ => none }
def FnExactCountDisplacedWrongFalsely : Prop := fnExactCountDisplacedRow.holds Try.pinned (OpenSpec.ofChange fnExactCountDisplacedWrong)

/-- 'laws.FnExactChanceDisplaced': WHATEVER THE INPUT: true; the input reads as it did. -/
def fnExactChanceDisplacedSpec : ChangeSpec := { name := "fnExactChanceDisplaced", fn := fun _ => fun
  | [d1, d2, d3] => { results := [.lit (.bool true)], args := [d1, d2, d3] }
  | _ => none }
def fnExactChanceDisplacedRow : OpenClaim := { program := "ytkciccbpjdaekaa", sum := "399f497b94ef656ea73ebf33bcc4cd4e9cf56756c059c54f6d5fffd7487a07c0", func := "loop.example/g01315/laws.FnExactChanceDisplaced", spec := "fnExactChanceDisplaced", unfollowed := true, recurses := true, apart := false }
def FnExactChanceDisplacedSaid : Prop := fnExactChanceDisplacedRow.holds Try.pinned (OpenSpec.ofChange fnExactChanceDisplacedSpec)

/-- ITS FALSE NEIGHBOUR: 'it returns false'. Refute it at one input. -/
def fnExactChanceDisplacedWrong : ChangeSpec := { name := "fnExactChanceDisplaced", fn := fun _ => fun
  | [d1, d2, d3] => { results := [.lit (.bool false)], args := [d1, d2, d3] }
  | _ => none }
def FnExactChanceDisplacedWrongFalsely : Prop := fnExactChanceDisplacedRow.holds Try.pinned (OpenSpec.ofChange fnExactChanceDisplacedWrong)

/- THE SECOND FORM. 'bulk': how many values and letters a reading holds, each counted each time it is reached (what is shared counts as often as it is met; a slice's spare places count too). A statement '..UptoSaid' is the law's where the arguments, and the package variables that the reading takes, are together of bulk at most 1048576: NARROWER than '..Said'. Prove '..Said' where nothing that the law and all that it calls make is longer than what came in: it says more and counts as full. Else prove '..UptoSaid'. A law counts once. -/
mutual
def uptoBulk {H : Type} : DataW H → Nat
  | .lit (.string bytes) => bytes.length + 1
  | .lit _ => 1
  | .nil => 1
  | .ptr d => uptoBulk d + 1
  | .slice elems spare => uptoBulkAll elems + uptoBulkAll spare + 1
  | .agg parts => uptoBulkAll parts + 1
  | .iface _ d => uptoBulk d + 1
  | .map entries => uptoBulkEntries entries + 1
  | .held _ => 1
def uptoBulkAll {H : Type} : List (DataW H) → Nat
  | [] => 0
  | d :: r => uptoBulk d + uptoBulkAll r
def uptoBulkEntries {H : Type} : List (Lit × DataW H) → Nat
  | [] => 0
  | x :: r => uptoBulkEntry x + uptoBulkEntries r
def uptoBulkEntry {H : Type} : Lit × DataW H → Nat
  | (.string bytes, d) => bytes.length + uptoBulk d + 1
  | (_, d) => uptoBulk d + 1
 end
def uptoSmall : (H : Type) → List (DataW H) → Bool := fun _ ds => decide (uptoBulkAll ds ≤ 1048576)
def OpenSpec.upto (s : _root_.Go.ChangeSpec) : _root_.Go.OpenSpec := { _root_.Go.OpenSpec.ofChange s with cond := some uptoSmall }

/-- 'laws.FnExactAllSeatings', WHERE WHAT IT READS IS OF BULK AT MOST 1048576: true; the input reads as it did. -/
def fnExactAllSeatingsUptoRow : OpenClaim := { program := "ytkciccbpjdaekaa", sum := "399f497b94ef656ea73ebf33bcc4cd4e9cf56756c059c54f6d5fffd7487a07c0", func := "loop.example/g01315/laws.FnExactAllSeatings", spec := "fnExactAllSeatings", unfollowed := true, recurses := true, apart := false, narrowed := true }
def FnExactAllSeatingsUptoSaid : Prop := fnExactAllSeatingsUptoRow.holds Try.pinned (OpenSpec.upto fnExactAllSeatingsSpec)

/-- 'laws.FnExactLikeliestSeatings', WHERE WHAT IT READS IS OF BULK AT MOST 1048576: true; the input reads as it did. -/
def fnExactLikeliestSeatingsUptoRow : OpenClaim := { program := "ytkciccbpjdaekaa", sum := "399f497b94ef656ea73ebf33bcc4cd4e9cf56756c059c54f6d5fffd7487a07c0", func := "loop.example/g01315/laws.FnExactLikeliestSeatings", spec := "fnExactLikeliestSeatings", unfollowed := true, recurses := true, apart := false, narrowed := true }
def FnExactLikeliestSeatingsUptoSaid : Prop := fnExactLikeliestSeatingsUptoRow.holds Try.pinned (OpenSpec.upto fnExactLikeliestSeatingsSpec)

/-- 'laws.FnExactCountDisplaced', WHERE WHAT IT READS IS OF BULK AT MOST 1048576: true; the input reads as it did. -/
def fnExactCountDisplacedUptoRow : OpenClaim := { program := "ytkciccbpjdaekaa", sum := "399f497b94ef656ea73ebf33bcc4cd4e9cf56756c059c54f6d5fffd7487a07c0", func := "loop.example/g01315/laws.FnExactCountDisplaced", spec := "fnExactCountDisplaced", unfollowed := true, recurses := true, apart := false, narrowed := true }
def FnExactCountDisplacedUptoSaid : Prop := fnExactCountDisplacedUptoRow.holds Try.pinned (OpenSpec.upto fnExactCountDisplacedSpec)

/-- 'laws.FnExactChanceDisplaced', WHERE WHAT IT READS IS OF BULK AT MOST 1048576: true; the input reads as it did. -/
def fnExactChanceDisplacedUptoRow : OpenClaim := { program := "ytkciccbpjdaekaa", sum := "399f497b94ef656ea73ebf33bcc4cd4e9cf56756c059c54f6d5fffd7487a07c0", func := "loop.example/g01315/laws.FnExactChanceDisplaced", spec := "fnExactChanceDisplaced", unfollowed := true, recurses := true, apart := false, narrowed := true }
def FnExactChanceDisplacedUptoSaid : Prop := fnExactChanceDisplacedUptoRow.holds Try.pinned (OpenSpec.upto fnExactChanceDisplacedSpec)

end Rows
end Go.Proofs.Ytkciccbpjdaekaa
