/-
  No cell of these rows narrows 'for every input' (looked for: loops, veiled, ifaces, maps, wideKeys, modest, calm, conditions, laid).
  DERIVED. THE GIVEN ROWS OF THIS SEAT. 7 by the template 'for every input the law returns true; each argument reads behind the call as it read before'; 0 by the template 'total and deterministic' (their statements: YtojbhdkjmaekjaaTotals.lean).
  GIVEN WITH THE SEED: the statements are not yours to turn. If you find one false, say at which input.
  Laid BY PROGRAM, IN A SANDBOX (cutbox-rows.mjs): the forced cells as the released guide's own fill.sh prints them over the translation 8bea6e57b069f68e… (all of the seat's roots in one cut). By AI agents, Wed Nov 11 2026. No macro, syntax, notation, axiom, sorry.
-/
import Derived.Test.YtojbhdkjmaekjaaChecked
import GoSem.Claim
import GoSem.ClaimJoined
import GoSem.ClaimMapViews
import Derived.JoinedTies
import Derived.KernelRfl
namespace Go.Proofs.Ytojbhdkjmaekjaa
/- THE CELL 'sum', in the pinned program and in every row, IS THE sha256 OF THE DUMP (.gsa) THAT YtojbhdkjmaekjaaProg.lean LOADS. Nothing in Lean hashes anything: it is a label: what it is worth is what the hold of that sum in a sandbox is worth. -/
noncomputable def Try.pinned : Pinned := { name := "ytojbhdkjmaekjaa", sum := "8bea6e57b069f68e84591c0d1f0f79d37abca4d4b53381d28a2de63f0c47212b", checked := Try.checked }
namespace Rows
def none {H : Type} : Left H := { results := [], args := [] }

/-- 'laws.FnExactIsGiving': WHATEVER THE INPUT: true; the input reads as it did. -/
def fnExactIsGivingSpec : ChangeSpec := { name := "fnExactIsGiving", fn := fun _ => fun
  | [d1, d2] => { results := [.lit (.bool true)], args := [d1, d2] }
  | _ => none }
def fnExactIsGivingRow : OpenClaim := { program := "ytojbhdkjmaekjaa", sum := "8bea6e57b069f68e84591c0d1f0f79d37abca4d4b53381d28a2de63f0c47212b", func := "loop.example/g01315/laws.FnExactIsGiving", spec := "fnExactIsGiving", apart := false }
def FnExactIsGivingSaid : Prop := fnExactIsGivingRow.holds Try.pinned (OpenSpec.ofChange fnExactIsGivingSpec)

/-- ITS FALSE NEIGHBOUR: 'it returns false'. Refute it at one input. -/
def fnExactIsGivingWrong : ChangeSpec := { name := "fnExactIsGiving", fn := fun _ => fun
  | [d1, d2] => { results := [.lit (.bool false)], args := [d1, d2] }
  | _ => none }
def FnExactIsGivingWrongFalsely : Prop := fnExactIsGivingRow.holds Try.pinned (OpenSpec.ofChange fnExactIsGivingWrong)

/-- 'laws.FnExactGiftsBetween': WHATEVER THE INPUT: true; the input reads as it did. -/
def fnExactGiftsBetweenSpec : ChangeSpec := { name := "fnExactGiftsBetween", fn := fun _ => fun
  | [d1, d2] => { results := [.lit (.bool true)], args := [d1, d2] }
  | _ => none }
def fnExactGiftsBetweenRow : OpenClaim := { program := "ytojbhdkjmaekjaa", sum := "8bea6e57b069f68e84591c0d1f0f79d37abca4d4b53381d28a2de63f0c47212b", func := "loop.example/g01315/laws.FnExactGiftsBetween", spec := "fnExactGiftsBetween", apart := false }
def FnExactGiftsBetweenSaid : Prop := fnExactGiftsBetweenRow.holds Try.pinned (OpenSpec.ofChange fnExactGiftsBetweenSpec)

/-- ITS FALSE NEIGHBOUR: 'it returns false'. Refute it at one input. -/
def fnExactGiftsBetweenWrong : ChangeSpec := { name := "fnExactGiftsBetween", fn := fun _ => fun
  | [d1, d2] => { results := [.lit (.bool false)], args := [d1, d2] }
  | _ => none }
def FnExactGiftsBetweenWrongFalsely : Prop := fnExactGiftsBetweenRow.holds Try.pinned (OpenSpec.ofChange fnExactGiftsBetweenWrong)

/-- 'laws.FnExactNextGiving': WHATEVER THE INPUT: true; the input reads as it did. -/
def fnExactNextGivingSpec : ChangeSpec := { name := "fnExactNextGiving", fn := fun _ => fun
  | [d1, d2] => { results := [.lit (.bool true)], args := [d1, d2] }
  | _ => none }
def fnExactNextGivingRow : OpenClaim := { program := "ytojbhdkjmaekjaa", sum := "8bea6e57b069f68e84591c0d1f0f79d37abca4d4b53381d28a2de63f0c47212b", func := "loop.example/g01315/laws.FnExactNextGiving", spec := "fnExactNextGiving", unfollowed := true, recurses := true, apart := false }
def FnExactNextGivingSaid : Prop := fnExactNextGivingRow.holds Try.pinned (OpenSpec.ofChange fnExactNextGivingSpec)

/-- ITS FALSE NEIGHBOUR: 'it returns false'. Refute it at one input. -/
def fnExactNextGivingWrong : ChangeSpec := { name := "fnExactNextGiving", fn := fun _ => fun
  | [d1, d2] => { results := [.lit (.bool false)], args := [d1, d2] }
  | _ => none }
def FnExactNextGivingWrongFalsely : Prop := fnExactNextGivingRow.holds Try.pinned (OpenSpec.ofChange fnExactNextGivingWrong)

/-- 'laws.FnExactNextApart': WHATEVER THE INPUT: true; the input reads as it did. -/
def fnExactNextApartSpec : ChangeSpec := { name := "fnExactNextApart", fn := fun _ => fun
  | [d] => { results := [.lit (.bool true)], args := [d] }
  | _ => none }
def fnExactNextApartRow : OpenClaim := { program := "ytojbhdkjmaekjaa", sum := "8bea6e57b069f68e84591c0d1f0f79d37abca4d4b53381d28a2de63f0c47212b", func := "loop.example/g01315/laws.FnExactNextApart", spec := "fnExactNextApart", unfollowed := true, recurses := true, apart := false }
def FnExactNextApartSaid : Prop := fnExactNextApartRow.holds Try.pinned (OpenSpec.ofChange fnExactNextApartSpec)

/-- ITS FALSE NEIGHBOUR: 'it returns false'. Refute it at one input. -/
def fnExactNextApartWrong : ChangeSpec := { name := "fnExactNextApart", fn := fun _ => fun
  | [d] => { results := [.lit (.bool false)], args := [d] }
  | _ => none }
def FnExactNextApartWrongFalsely : Prop := fnExactNextApartRow.holds Try.pinned (OpenSpec.ofChange fnExactNextApartWrong)

/-- 'laws.FnExactCanSeat': WHATEVER THE INPUT: true; the input reads as it did. -/
def fnExactCanSeatSpec : ChangeSpec := { name := "fnExactCanSeat", fn := fun _ => fun
  | [d1, d2] => { results := [.lit (.bool true)], args := [d1, d2] }
  | _ => none }
def fnExactCanSeatRow : OpenClaim := { program := "ytojbhdkjmaekjaa", sum := "8bea6e57b069f68e84591c0d1f0f79d37abca4d4b53381d28a2de63f0c47212b", func := "loop.example/g01315/laws.FnExactCanSeat", spec := "fnExactCanSeat", unfollowed := true, recurses := true, apart := false }
def FnExactCanSeatSaid : Prop := fnExactCanSeatRow.holds Try.pinned (OpenSpec.ofChange fnExactCanSeatSpec)

/-- ITS FALSE NEIGHBOUR: 'it returns false'. Refute it at one input. -/
def fnExactCanSeatWrong : ChangeSpec := { name := "fnExactCanSeat", fn := fun _ => fun
  | [d1, d2] => { results := [.lit (.bool false)], args := [d1, d2] }
  | _ => none }
def FnExactCanSeatWrongFalsely : Prop := fnExactCanSeatRow.holds Try.pinned (OpenSpec.ofChange fnExactCanSeatWrong)

/-- 'laws.FnExactChanceOfSeating': WHATEVER THE INPUT: true; the input reads as it did. -/
def fnExactChanceOfSeatingSpec : ChangeSpec := { name := "fnExactChanceOfSeating", fn := fun _ => fun
  | [d1, d2] => { results := [.lit (.bool true)], args := [d1, d2] }
  | _ => none }
def fnExactChanceOfSeatingRow : OpenClaim := { program := "ytojbhdkjmaekjaa", sum := "8bea6e57b069f68e84591c0d1f0f79d37abca4d4b53381d28a2de63f0c47212b", func := "loop.example/g01315/laws.FnExactChanceOfSeating", spec := "fnExactChanceOfSeating", unfollowed := true, recurses := true, apart := false }
def FnExactChanceOfSeatingSaid : Prop := fnExactChanceOfSeatingRow.holds Try.pinned (OpenSpec.ofChange fnExactChanceOfSeatingSpec)

/-- ITS FALSE NEIGHBOUR: 'it returns false'. Refute it at one input. -/
def fnExactChanceOfSeatingWrong : ChangeSpec := { name := "fnExactChanceOfSeating", fn := fun _ => fun
  | [d1, d2] => { results := [.lit (.bool false)], args := [d1, d2] }
  | _ => none }
def FnExactChanceOfSeatingWrongFalsely : Prop := fnExactChanceOfSeatingRow.holds Try.pinned (OpenSpec.ofChange fnExactChanceOfSeatingWrong)

/-- 'laws.FnExactDisplacedIn': WHATEVER THE INPUT: true; the input reads as it did. -/
def fnExactDisplacedInSpec : ChangeSpec := { name := "fnExactDisplacedIn", fn := fun _ => fun
  | [d] => { results := [.lit (.bool true)], args := [d] }
  | _ => none }
def fnExactDisplacedInRow : OpenClaim := { program := "ytojbhdkjmaekjaa", sum := "8bea6e57b069f68e84591c0d1f0f79d37abca4d4b53381d28a2de63f0c47212b", func := "loop.example/g01315/laws.FnExactDisplacedIn", spec := "fnExactDisplacedIn", apart := false }
def FnExactDisplacedInSaid : Prop := fnExactDisplacedInRow.holds Try.pinned (OpenSpec.ofChange fnExactDisplacedInSpec)

/-- ITS FALSE NEIGHBOUR: 'it returns false'. Refute it at one input. -/
def fnExactDisplacedInWrong : ChangeSpec := { name := "fnExactDisplacedIn", fn := fun _ => fun
  | [d] => { results := [.lit (.bool false)], args := [d] }
  | _ => none }
def FnExactDisplacedInWrongFalsely : Prop := fnExactDisplacedInRow.holds Try.pinned (OpenSpec.ofChange fnExactDisplacedInWrong)

/- THE SECOND FORM. 'bulk': how many values and letters a reading holds, each counted each time it is reached (what is shared counts as often as it is met; a slice's spare places count too). A statement '..UptoSaid' is the law's where the arguments, and the package variables that the reading takes, are together of bulk at most 1048576: NARROWER than '..Said'. Prove '..Said' where nothing that the law and all that it calls make is longer than what came in: it says more and counts as full. Else prove '..UptoSaid'. A law counts once. -/
mutual
def uptoBulk {H : Type} : DataW H → Nat
  | .lit (.string bytes) => bytes.length + 1
  | .lit _ => 1
  | .nil => 1
  | .ptr d => uptoBulk d + 1
  | .slice elems spare => uptoBulkAll elems + uptoBulkAll spare + 1
  | .agg parts => uptoBulkAll parts + 1
  | .iface _ d => uptoBulk d + 1
  | .map entries => uptoBulkEntries entries + 1
  | .held _ => 1
def uptoBulkAll {H : Type} : List (DataW H) → Nat
  | [] => 0
  | d :: r => uptoBulk d + uptoBulkAll r
def uptoBulkEntries {H : Type} : List (Lit × DataW H) → Nat
  | [] => 0
  | x :: r => uptoBulkEntry x + uptoBulkEntries r
def uptoBulkEntry {H : Type} : Lit × DataW H → Nat
  | (.string bytes, d) => bytes.length + uptoBulk d + 1
  | (_, d) => uptoBulk d + 1
 end
def uptoSmall : (H : Type) → List (DataW H) → Bool := fun _ ds => decide (uptoBulkAll ds ≤ 1048576)
def OpenSpec.upto (s : _root_.Go.ChangeSpec) : _root_.Go.OpenSpec := { _root_.Go.OpenSpec.ofChange s with cond := some uptoSmall }

/-- 'laws.FnExactIsGiving', WHERE WHAT IT READS IS OF BULK AT MOST 1048576: true; the input reads as it did. -/
def fnExactIsGivingUptoRow : OpenClaim := { program := "ytojbhdkjmaekjaa", sum := "8bea6e57b069f68e84591c0d1f0f79d37abca4d4b53381d28a2de63f0c47212b", func := "loop.example/g01315/laws.FnExactIsGiving", spec := "fnExactIsGiving", apart := false, narrowed := true }
def FnExactIsGivingUptoSaid : Prop := fnExactIsGivingUptoRow.holds Try.pinned (OpenSpec.upto fnExactIsGivingSpec)

/-- 'laws.FnExactGiftsBetween', WHERE WHAT IT READS IS OF BULK AT MOST 1048576: true; the input reads as it did. -/
def fnExactGiftsBetweenUptoRow : OpenClaim := { program := "ytojbhdkjmaekjaa", sum := "8bea6e57b069f68e84591c0d1f0f79d37abca4d4b53381d28a2de63f0c47212b", func := "loop.example/g01315/laws.FnExactGiftsBetween", spec := "fnExactGiftsBetween", apart := false, narrowed := true }
def FnExactGiftsBetweenUptoSaid : Prop := fnExactGiftsBetweenUptoRow.holds Try.pinned (OpenSpec.upto fnExactGiftsBetweenSpec)

/-- 'laws.FnExactNextGiving', WHERE WHAT IT READS IS OF BULK AT MOST 1048576: true; the input reads as it did. -/
def fnExactNextGivingUptoRow : OpenClaim := { program := "ytojbhdkjmaekjaa", sum := "8bea6e57b069f68e84591c0d1f0f79d37abca4d4b53381d28a2de63f0c47212b", func := "loop.example/g01315/laws.FnExactNextGiving", spec := "fnExactNextGiving", unfollowed := true, recurses := true, apart := false, narrowed := true }
def FnExactNextGivingUptoSaid : Prop := fnExactNextGivingUptoRow.holds Try.pinned (OpenSpec.upto fnExactNextGivingSpec)

/-- 'laws.FnExactNextApart', WHERE WHAT IT READS IS OF BULK AT MOST 1048576: true; the input reads as it did. -/
def fnExactNextApartUptoRow : OpenClaim := { program := "ytojbhdkjmaekjaa", sum := "8bea6e57b069f68e84591c0d1f0f79d37abca4d4b53381d28a2de63f0c47212b", func := "loop.example/g01315/laws.FnExactNextApart", spec := "fnExactNextApart", unfollowed := true, recurses := true, apart := false, narrowed := true }
def FnExactNextApartUptoSaid : Prop := fnExactNextApartUptoRow.holds Try.pinned (OpenSpec.upto fnExactNextApartSpec)

/-- 'laws.FnExactCanSeat', WHERE WHAT IT READS IS OF BULK AT MOST 1048576: true; the input reads as it did. -/
def fnExactCanSeatUptoRow : OpenClaim := { program := "ytojbhdkjmaekjaa", sum := "8bea6e57b069f68e84591c0d1f0f79d37abca4d4b53381d28a2de63f0c47212b", func := "loop.example/g01315/laws.FnExactCanSeat", spec := "fnExactCanSeat", unfollowed := true, recurses := true, apart := false, narrowed := true }
def FnExactCanSeatUptoSaid : Prop := fnExactCanSeatUptoRow.holds Try.pinned (OpenSpec.upto fnExactCanSeatSpec)

/-- 'laws.FnExactChanceOfSeating', WHERE WHAT IT READS IS OF BULK AT MOST 1048576: true; the input reads as it did. -/
def fnExactChanceOfSeatingUptoRow : OpenClaim := { program := "ytojbhdkjmaekjaa", sum := "8bea6e57b069f68e84591c0d1f0f79d37abca4d4b53381d28a2de63f0c47212b", func := "loop.example/g01315/laws.FnExactChanceOfSeating", spec := "fnExactChanceOfSeating", unfollowed := true, recurses := true, apart := false, narrowed := true }
def FnExactChanceOfSeatingUptoSaid : Prop := fnExactChanceOfSeatingUptoRow.holds Try.pinned (OpenSpec.upto fnExactChanceOfSeatingSpec)

/-- 'laws.FnExactDisplacedIn', WHERE WHAT IT READS IS OF BULK AT MOST 1048576: true; the input reads as it did. -/
def fnExactDisplacedInUptoRow : OpenClaim := { program := "ytojbhdkjmaekjaa", sum := "8bea6e57b069f68e84591c0d1f0f79d37abca4d4b53381d28a2de63f0c47212b", func := "loop.example/g01315/laws.FnExactDisplacedIn", spec := "fnExactDisplacedIn", apart := false, narrowed := true }
def FnExactDisplacedInUptoSaid : Prop := fnExactDisplacedInUptoRow.holds Try.pinned (OpenSpec.upto fnExactDisplacedInSpec)

end Rows
end Go.Proofs.Ytojbhdkjmaekjaa
