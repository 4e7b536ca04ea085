/-
  No cell of these rows narrows 'for every input' (looked for: loops, veiled, ifaces, maps, wideKeys, modest, calm, conditions, laid).
  DERIVED. THE GIVEN ROWS OF THIS SEAT. 4 by the template 'for every input the law returns true; each argument reads behind the call as it read before'; 0 by the template 'total and deterministic' (their statements: YtjapgeciogcaiaaTotals.lean).
  GIVEN WITH THE SEED: the statements are not yours to turn. If you find one false, say at which input.
  Laid BY PROGRAM, IN A SANDBOX (cutbox-rows.mjs): the forced cells as the released guide's own fill.sh prints them over the translation 0498640fe0994ce1… (all of the seat's roots in one cut). By AI agents, Wed Nov 11 2026. No macro, syntax, notation, axiom, sorry.
-/
import Derived.Test.YtjapgeciogcaiaaChecked
import GoSem.Claim
import GoSem.ClaimJoined
import GoSem.ClaimMapViews
import Derived.JoinedTies
import Derived.KernelRfl
namespace Go.Proofs.Ytjapgeciogcaiaa
/- THE CELL 'sum', in the pinned program and in every row, IS THE sha256 OF THE DUMP (.gsa) THAT YtjapgeciogcaiaaProg.lean LOADS. Nothing in Lean hashes anything: it is a label: what it is worth is what the hold of that sum in a sandbox is worth. -/
noncomputable def Try.pinned : Pinned := { name := "ytjapgeciogcaiaa", sum := "0498640fe0994ce15a47f6075e4306175c2d3080a2845b417b82410867890b06", checked := Try.checked }
namespace Rows
def none {H : Type} : Left H := { results := [], args := [] }

/-- 'laws.FnExactFirstApart': WHATEVER THE INPUT: true; the input reads as it did. -/
def fnExactFirstApartSpec : ChangeSpec := { name := "fnExactFirstApart", fn := fun _ => fun
  | [d] => { results := [.lit (.bool true)], args := [d] }
  | _ => none }
def fnExactFirstApartRow : OpenClaim := { program := "ytjapgeciogcaiaa", sum := "0498640fe0994ce15a47f6075e4306175c2d3080a2845b417b82410867890b06", func := "loop.example/g01315/laws.FnExactFirstApart", spec := "fnExactFirstApart", unfollowed := true, recurses := true, apart := false }
def FnExactFirstApartSaid : Prop := fnExactFirstApartRow.holds Try.pinned (OpenSpec.ofChange fnExactFirstApartSpec)

/-- ITS FALSE NEIGHBOUR: 'it returns false'. Refute it at one input. -/
def fnExactFirstApartWrong : ChangeSpec := { name := "fnExactFirstApart", fn := fun _ => fun
  | [d] => { results := [.lit (.bool false)], args := [d] }
  | _ => none }
def FnExactFirstApartWrongFalsely : Prop := fnExactFirstApartRow.holds Try.pinned (OpenSpec.ofChange fnExactFirstApartWrong)

/-- 'laws.FnExactNextApart': WHATEVER THE INPUT: true; the input reads as it did. -/
def fnExactNextApartSpec : ChangeSpec := { name := "fnExactNextApart", fn := fun _ => fun
  | [d] => { results := [.lit (.bool true)], args := [d] }
  | _ => none }
def fnExactNextApartRow : OpenClaim := { program := "ytjapgeciogcaiaa", sum := "0498640fe0994ce15a47f6075e4306175c2d3080a2845b417b82410867890b06", func := "loop.example/g01315/laws.FnExactNextApart", spec := "fnExactNextApart", unfollowed := true, recurses := true, apart := false }
def FnExactNextApartSaid : Prop := fnExactNextApartRow.holds Try.pinned (OpenSpec.ofChange fnExactNextApartSpec)

/-- ITS FALSE NEIGHBOUR: 'it returns false'. Refute it at one input. -/
def fnExactNextApartWrong : ChangeSpec := { name := "fnExactNextApart", fn := fun _ => fun
  | [d] => { results := [.lit (.bool false)], args := [d] }
  | _ => none }
def FnExactNextApartWrongFalsely : Prop := fnExactNextApartRow.holds Try.pinned (OpenSpec.ofChange fnExactNextApartWrong)

/-- 'laws.FnExactFirstGiving': WHATEVER THE INPUT: true; the input reads as it did. -/
def fnExactFirstGivingSpec : ChangeSpec := { name := "fnExactFirstGiving", fn := fun _ => fun
  | [d] => { results := [.lit (.bool true)], args := [d] }
  | _ => none }
def fnExactFirstGivingRow : OpenClaim := { program := "ytjapgeciogcaiaa", sum := "0498640fe0994ce15a47f6075e4306175c2d3080a2845b417b82410867890b06", func := "loop.example/g01315/laws.FnExactFirstGiving", spec := "fnExactFirstGiving", unfollowed := true, recurses := true, apart := false }
def FnExactFirstGivingSaid : Prop := fnExactFirstGivingRow.holds Try.pinned (OpenSpec.ofChange fnExactFirstGivingSpec)

/-- ITS FALSE NEIGHBOUR: 'it returns false'. Refute it at one input. -/
def fnExactFirstGivingWrong : ChangeSpec := { name := "fnExactFirstGiving", fn := fun _ => fun
  | [d] => { results := [.lit (.bool false)], args := [d] }
  | _ => none }
def FnExactFirstGivingWrongFalsely : Prop := fnExactFirstGivingRow.holds Try.pinned (OpenSpec.ofChange fnExactFirstGivingWrong)

/-- 'laws.FnExactNextGiving': WHATEVER THE INPUT: true; the input reads as it did. -/
def fnExactNextGivingSpec : ChangeSpec := { name := "fnExactNextGiving", fn := fun _ => fun
  | [d1, d2] => { results := [.lit (.bool true)], args := [d1, d2] }
  | _ => none }
def fnExactNextGivingRow : OpenClaim := { program := "ytjapgeciogcaiaa", sum := "0498640fe0994ce15a47f6075e4306175c2d3080a2845b417b82410867890b06", func := "loop.example/g01315/laws.FnExactNextGiving", spec := "fnExactNextGiving", unfollowed := true, recurses := true, apart := false }
def FnExactNextGivingSaid : Prop := fnExactNextGivingRow.holds Try.pinned (OpenSpec.ofChange fnExactNextGivingSpec)

/-- ITS FALSE NEIGHBOUR: 'it returns false'. Refute it at one input. -/
def fnExactNextGivingWrong : ChangeSpec := { name := "fnExactNextGiving", fn := fun _ => fun
  | [d1, d2] => { results := [.lit (.bool false)], args := [d1, d2] }
  | _ => none }
def FnExactNextGivingWrongFalsely : Prop := fnExactNextGivingRow.holds Try.pinned (OpenSpec.ofChange fnExactNextGivingWrong)

/- THE SECOND FORM. 'bulk': how many values and letters a reading holds, each counted each time it is reached (what is shared counts as often as it is met; a slice's spare places count too). A statement '..UptoSaid' is the law's where the arguments, and the package variables that the reading takes, are together of bulk at most 1048576: NARROWER than '..Said'. Prove '..Said' where nothing that the law and all that it calls make is longer than what came in: it says more and counts as full. Else prove '..UptoSaid'. A law counts once. -/
mutual
def uptoBulk {H : Type} : DataW H → Nat
  | .lit (.string bytes) => bytes.length + 1
  | .lit _ => 1
  | .nil => 1
  | .ptr d => uptoBulk d + 1
  | .slice elems spare => uptoBulkAll elems + uptoBulkAll spare + 1
  | .agg parts => uptoBulkAll parts + 1
  | .iface _ d => uptoBulk d + 1
  | .map entries => uptoBulkEntries entries + 1
  | .held _ => 1
def uptoBulkAll {H : Type} : List (DataW H) → Nat
  | [] => 0
  | d :: r => uptoBulk d + uptoBulkAll r
def uptoBulkEntries {H : Type} : List (Lit × DataW H) → Nat
  | [] => 0
  | x :: r => uptoBulkEntry x + uptoBulkEntries r
def uptoBulkEntry {H : Type} : Lit × DataW H → Nat
  | (.string bytes, d) => bytes.length + uptoBulk d + 1
  | (_, d) => uptoBulk d + 1
 end
def uptoSmall : (H : Type) → List (DataW H) → Bool := fun _ ds => decide (uptoBulkAll ds ≤ 1048576)
def OpenSpec.upto (s : _root_.Go.ChangeSpec) : _root_.Go.OpenSpec := { _root_.Go.OpenSpec.ofChange s with cond := some uptoSmall }

/-- 'laws.FnExactFirstApart', WHERE WHAT IT READS IS OF BULK AT MOST 1048576: true; the input reads as it did. -/
def fnExactFirstApartUptoRow : OpenClaim := { program := "ytjapgeciogcaiaa", sum := "0498640fe0994ce15a47f6075e4306175c2d3080a2845b417b82410867890b06", func := "loop.example/g01315/laws.FnExactFirstApart", spec := "fnExactFirstApart", unfollowed := true, recurses := true, apart := false, narrowed := true }
def FnExactFirstApartUptoSaid : Prop := fnExactFirstApartUptoRow.holds Try.pinned (OpenSpec.upto fnExactFirstApartSpec)

/-- 'laws.FnExactNextApart', WHERE WHAT IT READS IS OF BULK AT MOST 1048576: true; the input reads as it did. -/
def fnExactNextApartUptoRow : OpenClaim := { program := "ytjapgeciogcaiaa", sum := "0498640fe0994ce15a47f6075e4306175c2d3080a2845b417b82410867890b06", func := "loop.example/g01315/laws.FnExactNextApart", spec := "fnExactNextApart", unfollowed := true, recurses := true, apart := false, narrowed := true }
def FnExactNextApartUptoSaid : Prop := fnExactNextApartUptoRow.holds Try.pinned (OpenSpec.upto fnExactNextApartSpec)

/-- 'laws.FnExactFirstGiving', WHERE WHAT IT READS IS OF BULK AT MOST 1048576: true; the input reads as it did. -/
def fnExactFirstGivingUptoRow : OpenClaim := { program := "ytjapgeciogcaiaa", sum := "0498640fe0994ce15a47f6075e4306175c2d3080a2845b417b82410867890b06", func := "loop.example/g01315/laws.FnExactFirstGiving", spec := "fnExactFirstGiving", unfollowed := true, recurses := true, apart := false, narrowed := true }
def FnExactFirstGivingUptoSaid : Prop := fnExactFirstGivingUptoRow.holds Try.pinned (OpenSpec.upto fnExactFirstGivingSpec)

/-- 'laws.FnExactNextGiving', WHERE WHAT IT READS IS OF BULK AT MOST 1048576: true; the input reads as it did. -/
def fnExactNextGivingUptoRow : OpenClaim := { program := "ytjapgeciogcaiaa", sum := "0498640fe0994ce15a47f6075e4306175c2d3080a2845b417b82410867890b06", func := "loop.example/g01315/laws.FnExactNextGiving", spec := "fnExactNextGiving", unfollowed := true, recurses := true, apart := false, narrowed := true }
def FnExactNextGivingUptoSaid : Prop := fnExactNextGivingUptoRow.holds Try.pinned (OpenSpec.upto fnExactNextGivingSpec)

end Rows
end Go.Proofs.Ytjapgeciogcaiaa
