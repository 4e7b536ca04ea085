/-
  No cell of these rows narrows 'for every input' (looked for: loops, veiled, ifaces, maps, wideKeys, modest, calm, conditions, laid).
  DERIVED. THE GIVEN ROWS OF THIS SEAT. 7 by the template 'for every input the law returns true; each argument reads behind the call as it read before'; 0 by the template 'total and deterministic' (their statements: YtbafaemnjnhlbaaTotals.lean).
  GIVEN WITH THE SEED: the statements are not yours to turn. If you find one false, say at which input.
  Laid BY PROGRAM, IN A SANDBOX (cutbox-rows.mjs): the forced cells as the released guide's own fill.sh prints them over the translation 7bb7be640e5cf48a… (all of the seat's roots in one cut). By AI agents, Wed Nov 11 2026. No macro, syntax, notation, axiom, sorry.
-/
import Derived.Test.YtbafaemnjnhlbaaChecked
import GoSem.Claim
import GoSem.ClaimJoined
import GoSem.ClaimMapViews
import Derived.JoinedTies
import Derived.KernelRfl
namespace Go.Proofs.Ytbafaemnjnhlbaa
/- THE CELL 'sum', in the pinned program and in every row, IS THE sha256 OF THE DUMP (.gsa) THAT YtbafaemnjnhlbaaProg.lean LOADS. Nothing in Lean hashes anything: it is a label: what it is worth is what the hold of that sum in a sandbox is worth. -/
noncomputable def Try.pinned : Pinned := { name := "ytbafaemnjnhlbaa", sum := "7bb7be640e5cf48a74675d9dd59d2b987fa808ffce04f786179fd2f9fa301935", checked := Try.checked }
namespace Rows
def none {H : Type} : Left H := { results := [], args := [] }

/-- 'laws.FnExactCanSeat': WHATEVER THE INPUT: true; the input reads as it did. -/
def fnExactCanSeatSpec : ChangeSpec := { name := "fnExactCanSeat", fn := fun _ => fun
  | [d1, d2] => { results := [.lit (.bool true)], args := [d1, d2] }
  | _ => none }
def fnExactCanSeatRow : OpenClaim := { program := "ytbafaemnjnhlbaa", sum := "7bb7be640e5cf48a74675d9dd59d2b987fa808ffce04f786179fd2f9fa301935", func := "loop.example/g01315/laws.FnExactCanSeat", spec := "fnExactCanSeat", unfollowed := true, recurses := true, apart := false }
def FnExactCanSeatSaid : Prop := fnExactCanSeatRow.holds Try.pinned (OpenSpec.ofChange fnExactCanSeatSpec)

/-- ITS FALSE NEIGHBOUR: 'it returns false'. Refute it at one input. -/
def fnExactCanSeatWrong : ChangeSpec := { name := "fnExactCanSeat", fn := fun _ => fun
  | [d1, d2] => { results := [.lit (.bool false)], args := [d1, d2] }
  | _ => none }
def FnExactCanSeatWrongFalsely : Prop := fnExactCanSeatRow.holds Try.pinned (OpenSpec.ofChange fnExactCanSeatWrong)

/-- 'laws.FnExactChanceOfSeating': WHATEVER THE INPUT: true; the input reads as it did. -/
def fnExactChanceOfSeatingSpec : ChangeSpec := { name := "fnExactChanceOfSeating", fn := fun _ => fun
  | [d1, d2] => { results := [.lit (.bool true)], args := [d1, d2] }
  | _ => none }
def fnExactChanceOfSeatingRow : OpenClaim := { program := "ytbafaemnjnhlbaa", sum := "7bb7be640e5cf48a74675d9dd59d2b987fa808ffce04f786179fd2f9fa301935", func := "loop.example/g01315/laws.FnExactChanceOfSeating", spec := "fnExactChanceOfSeating", unfollowed := true, recurses := true, apart := false }
def FnExactChanceOfSeatingSaid : Prop := fnExactChanceOfSeatingRow.holds Try.pinned (OpenSpec.ofChange fnExactChanceOfSeatingSpec)

/-- ITS FALSE NEIGHBOUR: 'it returns false'. Refute it at one input. -/
def fnExactChanceOfSeatingWrong : ChangeSpec := { name := "fnExactChanceOfSeating", fn := fun _ => fun
  | [d1, d2] => { results := [.lit (.bool false)], args := [d1, d2] }
  | _ => none }
def FnExactChanceOfSeatingWrongFalsely : Prop := fnExactChanceOfSeatingRow.holds Try.pinned (OpenSpec.ofChange fnExactChanceOfSeatingWrong)

/-- 'laws.FnExactDisplacedIn': WHATEVER THE INPUT: true; the input reads as it did. -/
def fnExactDisplacedInSpec : ChangeSpec := { name := "fnExactDisplacedIn", fn := fun _ => fun
  | [d] => { results := [.lit (.bool true)], args := [d] }
  | _ => none }
def fnExactDisplacedInRow : OpenClaim := { program := "ytbafaemnjnhlbaa", sum := "7bb7be640e5cf48a74675d9dd59d2b987fa808ffce04f786179fd2f9fa301935", func := "loop.example/g01315/laws.FnExactDisplacedIn", spec := "fnExactDisplacedIn", apart := false }
def FnExactDisplacedInSaid : Prop := fnExactDisplacedInRow.holds Try.pinned (OpenSpec.ofChange fnExactDisplacedInSpec)

/-- ITS FALSE NEIGHBOUR: 'it returns false'. Refute it at one input. -/
def fnExactDisplacedInWrong : ChangeSpec := { name := "fnExactDisplacedIn", fn := fun _ => fun
  | [d] => { results := [.lit (.bool false)], args := [d] }
  | _ => none }
def FnExactDisplacedInWrongFalsely : Prop := fnExactDisplacedInRow.holds Try.pinned (OpenSpec.ofChange fnExactDisplacedInWrong)

/-- 'laws.FnExactCountSeatings': WHATEVER THE INPUT: true; the input reads as it did. -/
def fnExactCountSeatingsSpec : ChangeSpec := { name := "fnExactCountSeatings", fn := fun _ => fun
  | [d1, d2] => { results := [.lit (.bool true)], args := [d1, d2] }
  | _ => none }
def fnExactCountSeatingsRow : OpenClaim := { program := "ytbafaemnjnhlbaa", sum := "7bb7be640e5cf48a74675d9dd59d2b987fa808ffce04f786179fd2f9fa301935", func := "loop.example/g01315/laws.FnExactCountSeatings", spec := "fnExactCountSeatings", apart := false }
def FnExactCountSeatingsSaid : Prop := fnExactCountSeatingsRow.holds Try.pinned (OpenSpec.ofChange fnExactCountSeatingsSpec)

/-- ITS FALSE NEIGHBOUR: 'it returns false'. Refute it at one input. -/
def fnExactCountSeatingsWrong : ChangeSpec := { name := "fnExactCountSeatings", fn := fun _ => fun
  | [d1, d2] => { results := [.lit (.bool false)], args := [d1, d2] }
  | _ => none }
def FnExactCountSeatingsWrongFalsely : Prop := fnExactCountSeatingsRow.holds Try.pinned (OpenSpec.ofChange fnExactCountSeatingsWrong)

/-- 'laws.FnExactChanceOwnSeat': WHATEVER THE INPUT: true; the input reads as it did. -/
def fnExactChanceOwnSeatSpec : ChangeSpec := { name := "fnExactChanceOwnSeat", fn := fun _ => fun
  | [d1, d2, d3] => { results := [.lit (.bool true)], args := [d1, d2, d3] }
  | _ => none }
def fnExactChanceOwnSeatRow : OpenClaim := { program := "ytbafaemnjnhlbaa", sum := "7bb7be640e5cf48a74675d9dd59d2b987fa808ffce04f786179fd2f9fa301935", func := "loop.example/g01315/laws.FnExactChanceOwnSeat", spec := "fnExactChanceOwnSeat", apart := false }
def FnExactChanceOwnSeatSaid : Prop := fnExactChanceOwnSeatRow.holds Try.pinned (OpenSpec.ofChange fnExactChanceOwnSeatSpec)

/-- ITS FALSE NEIGHBOUR: 'it returns false'. Refute it at one input. -/
def fnExactChanceOwnSeatWrong : ChangeSpec := { name := "fnExactChanceOwnSeat", fn := fun _ => fun
  | [d1, d2, d3] => { results := [.lit (.bool false)], args := [d1, d2, d3] }
  | _ => none }
def FnExactChanceOwnSeatWrongFalsely : Prop := fnExactChanceOwnSeatRow.holds Try.pinned (OpenSpec.ofChange fnExactChanceOwnSeatWrong)

/-- 'laws.FnExactMeanOwnSeats': WHATEVER THE INPUT: true; the input reads as it did. -/
def fnExactMeanOwnSeatsSpec : ChangeSpec := { name := "fnExactMeanOwnSeats", fn := fun _ => fun
  | [d1, d2] => { results := [.lit (.bool true)], args := [d1, d2] }
  | _ => none }
def fnExactMeanOwnSeatsRow : OpenClaim := { program := "ytbafaemnjnhlbaa", sum := "7bb7be640e5cf48a74675d9dd59d2b987fa808ffce04f786179fd2f9fa301935", func := "loop.example/g01315/laws.FnExactMeanOwnSeats", spec := "fnExactMeanOwnSeats", apart := false }
def FnExactMeanOwnSeatsSaid : Prop := fnExactMeanOwnSeatsRow.holds Try.pinned (OpenSpec.ofChange fnExactMeanOwnSeatsSpec)

/-- ITS FALSE NEIGHBOUR: 'it returns false'. Refute it at one input. -/
def fnExactMeanOwnSeatsWrong : ChangeSpec := { name := "fnExactMeanOwnSeats", fn := fun _ => fun
  | [d1, d2] => { results := [.lit (.bool false)], args := [d1, d2] }
  | _ => none }
def FnExactMeanOwnSeatsWrongFalsely : Prop := fnExactMeanOwnSeatsRow.holds Try.pinned (OpenSpec.ofChange fnExactMeanOwnSeatsWrong)

/-- 'laws.FnExactChanceNone': WHATEVER THE INPUT: true; the input reads as it did. -/
def fnExactChanceNoneSpec : ChangeSpec := { name := "fnExactChanceNone", fn := fun _ => fun
  | [d] => { results := [.lit (.bool true)], args := [d] }
  | _ => none }
def fnExactChanceNoneRow : OpenClaim := { program := "ytbafaemnjnhlbaa", sum := "7bb7be640e5cf48a74675d9dd59d2b987fa808ffce04f786179fd2f9fa301935", func := "loop.example/g01315/laws.FnExactChanceNone", spec := "fnExactChanceNone", apart := false }
def FnExactChanceNoneSaid : Prop := fnExactChanceNoneRow.holds Try.pinned (OpenSpec.ofChange fnExactChanceNoneSpec)

/-- ITS FALSE NEIGHBOUR: 'it returns false'. Refute it at one input. -/
def fnExactChanceNoneWrong : ChangeSpec := { name := "fnExactChanceNone", fn := fun _ => fun
  | [d] => { results := [.lit (.bool false)], args := [d] }
  | _ => none }
def FnExactChanceNoneWrongFalsely : Prop := fnExactChanceNoneRow.holds Try.pinned (OpenSpec.ofChange fnExactChanceNoneWrong)

/- THE SECOND FORM. 'bulk': how many values and letters a reading holds, each counted each time it is reached (what is shared counts as often as it is met; a slice's spare places count too). A statement '..UptoSaid' is the law's where the arguments, and the package variables that the reading takes, are together of bulk at most 1048576: NARROWER than '..Said'. Prove '..Said' where nothing that the law and all that it calls make is longer than what came in: it says more and counts as full. Else prove '..UptoSaid'. A law counts once. -/
mutual
def uptoBulk {H : Type} : DataW H → Nat
  | .lit (.string bytes) => bytes.length + 1
  | .lit _ => 1
  | .nil => 1
  | .ptr d => uptoBulk d + 1
  | .slice elems spare => uptoBulkAll elems + uptoBulkAll spare + 1
  | .agg parts => uptoBulkAll parts + 1
  | .iface _ d => uptoBulk d + 1
  | .map entries => uptoBulkEntries entries + 1
  | .held _ => 1
def uptoBulkAll {H : Type} : List (DataW H) → Nat
  | [] => 0
  | d :: r => uptoBulk d + uptoBulkAll r
def uptoBulkEntries {H : Type} : List (Lit × DataW H) → Nat
  | [] => 0
  | x :: r => uptoBulkEntry x + uptoBulkEntries r
def uptoBulkEntry {H : Type} : Lit × DataW H → Nat
  | (.string bytes, d) => bytes.length + uptoBulk d + 1
  | (_, d) => uptoBulk d + 1
 end
def uptoSmall : (H : Type) → List (DataW H) → Bool := fun _ ds => decide (uptoBulkAll ds ≤ 1048576)
def OpenSpec.upto (s : _root_.Go.ChangeSpec) : _root_.Go.OpenSpec := { _root_.Go.OpenSpec.ofChange s with cond := some uptoSmall }

/-- 'laws.FnExactCanSeat', WHERE WHAT IT READS IS OF BULK AT MOST 1048576: true; the input reads as it did. -/
def fnExactCanSeatUptoRow : OpenClaim := { program := "ytbafaemnjnhlbaa", sum := "7bb7be640e5cf48a74675d9dd59d2b987fa808ffce04f786179fd2f9fa301935", func := "loop.example/g01315/laws.FnExactCanSeat", spec := "fnExactCanSeat", unfollowed := true, recurses := true, apart := false, narrowed := true }
def FnExactCanSeatUptoSaid : Prop := fnExactCanSeatUptoRow.holds Try.pinned (OpenSpec.upto fnExactCanSeatSpec)

/-- 'laws.FnExactChanceOfSeating', WHERE WHAT IT READS IS OF BULK AT MOST 1048576: true; the input reads as it did. -/
def fnExactChanceOfSeatingUptoRow : OpenClaim := { program := "ytbafaemnjnhlbaa", sum := "7bb7be640e5cf48a74675d9dd59d2b987fa808ffce04f786179fd2f9fa301935", func := "loop.example/g01315/laws.FnExactChanceOfSeating", spec := "fnExactChanceOfSeating", unfollowed := true, recurses := true, apart := false, narrowed := true }
def FnExactChanceOfSeatingUptoSaid : Prop := fnExactChanceOfSeatingUptoRow.holds Try.pinned (OpenSpec.upto fnExactChanceOfSeatingSpec)

/-- 'laws.FnExactDisplacedIn', WHERE WHAT IT READS IS OF BULK AT MOST 1048576: true; the input reads as it did. -/
def fnExactDisplacedInUptoRow : OpenClaim := { program := "ytbafaemnjnhlbaa", sum := "7bb7be640e5cf48a74675d9dd59d2b987fa808ffce04f786179fd2f9fa301935", func := "loop.example/g01315/laws.FnExactDisplacedIn", spec := "fnExactDisplacedIn", apart := false, narrowed := true }
def FnExactDisplacedInUptoSaid : Prop := fnExactDisplacedInUptoRow.holds Try.pinned (OpenSpec.upto fnExactDisplacedInSpec)

/-- 'laws.FnExactCountSeatings', WHERE WHAT IT READS IS OF BULK AT MOST 1048576: true; the input reads as it did. -/
def fnExactCountSeatingsUptoRow : OpenClaim := { program := "ytbafaemnjnhlbaa", sum := "7bb7be640e5cf48a74675d9dd59d2b987fa808ffce04f786179fd2f9fa301935", func := "loop.example/g01315/laws.FnExactCountSeatings", spec := "fnExactCountSeatings", apart := false, narrowed := true }
def FnExactCountSeatingsUptoSaid : Prop := fnExactCountSeatingsUptoRow.holds Try.pinned (OpenSpec.upto fnExactCountSeatingsSpec)

/-- 'laws.FnExactChanceOwnSeat', WHERE WHAT IT READS IS OF BULK AT MOST 1048576: true; the input reads as it did. -/
def fnExactChanceOwnSeatUptoRow : OpenClaim := { program := "ytbafaemnjnhlbaa", sum := "7bb7be640e5cf48a74675d9dd59d2b987fa808ffce04f786179fd2f9fa301935", func := "loop.example/g01315/laws.FnExactChanceOwnSeat", spec := "fnExactChanceOwnSeat", apart := false, narrowed := true }
def FnExactChanceOwnSeatUptoSaid : Prop := fnExactChanceOwnSeatUptoRow.holds Try.pinned (OpenSpec.upto fnExactChanceOwnSeatSpec)

/-- 'laws.FnExactMeanOwnSeats', WHERE WHAT IT READS IS OF BULK AT MOST 1048576: true; the input reads as it did. -/
def fnExactMeanOwnSeatsUptoRow : OpenClaim := { program := "ytbafaemnjnhlbaa", sum := "7bb7be640e5cf48a74675d9dd59d2b987fa808ffce04f786179fd2f9fa301935", func := "loop.example/g01315/laws.FnExactMeanOwnSeats", spec := "fnExactMeanOwnSeats", apart := false, narrowed := true }
def FnExactMeanOwnSeatsUptoSaid : Prop := fnExactMeanOwnSeatsUptoRow.holds Try.pinned (OpenSpec.upto fnExactMeanOwnSeatsSpec)

/-- 'laws.FnExactChanceNone', WHERE WHAT IT READS IS OF BULK AT MOST 1048576: true; the input reads as it did. -/
def fnExactChanceNoneUptoRow : OpenClaim := { program := "ytbafaemnjnhlbaa", sum := "7bb7be640e5cf48a74675d9dd59d2b987fa808ffce04f786179fd2f9fa301935", func := "loop.example/g01315/laws.FnExactChanceNone", spec := "fnExactChanceNone", apart := false, narrowed := true }
def FnExactChanceNoneUptoSaid : Prop := fnExactChanceNoneUptoRow.holds Try.pinned (OpenSpec.upto fnExactChanceNoneSpec)

end Rows
end Go.Proofs.Ytbafaemnjnhlbaa
