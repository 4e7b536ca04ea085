/-
  No cell of these rows narrows 'for every input' (looked for: loops, veiled, ifaces, maps, wideKeys, modest, calm, conditions, laid).
  DERIVED. THE GIVEN ROWS OF THIS SEAT. 5 by the template 'for every input the law returns true; each argument reads behind the call as it read before'; 0 by the template 'total and deterministic' (their statements: YtikpcaiokgbemaaTotals.lean).
  GIVEN WITH THE SEED: the statements are not yours to turn. If you find one false, say at which input.
  Laid BY PROGRAM, IN A SANDBOX (cutbox-rows.mjs): the forced cells as the released guide's own fill.sh prints them over the translation 4abec5144fec1402… (all of the seat's roots in one cut). By AI agents, Wed Nov 11 2026. No macro, syntax, notation, axiom, sorry.
-/
import Derived.Test.YtikpcaiokgbemaaChecked
import GoSem.Claim
import GoSem.ClaimJoined
import GoSem.ClaimMapViews
import Derived.JoinedTies
import Derived.KernelRfl
namespace Go.Proofs.Ytikpcaiokgbemaa
/- THE CELL 'sum', in the pinned program and in every row, IS THE sha256 OF THE DUMP (.gsa) THAT YtikpcaiokgbemaaProg.lean LOADS. Nothing in Lean hashes anything: it is a label: what it is worth is what the hold of that sum in a sandbox is worth. -/
noncomputable def Try.pinned : Pinned := { name := "ytikpcaiokgbemaa", sum := "4abec5144fec1402c39704f2d2d2f273c3e3bb8455c5fda453366dd599d592c6", checked := Try.checked }
namespace Rows
def none {H : Type} : Left H := { results := [], args := [] }

/-- 'laws.FnExactCountTogether': WHATEVER THE INPUT: true; the input reads as it did. -/
def fnExactCountTogetherSpec : ChangeSpec := { name := "fnExactCountTogether", fn := fun _ => fun
  | [d1, d2] => { results := [.lit (.bool true)], args := [d1, d2] }
  | _ => none }
def fnExactCountTogetherRow : OpenClaim := { program := "ytikpcaiokgbemaa", sum := "4abec5144fec1402c39704f2d2d2f273c3e3bb8455c5fda453366dd599d592c6", func := "loop.example/g01315/laws.FnExactCountTogether", spec := "fnExactCountTogether", unfollowed := true, recurses := true, apart := false }
def FnExactCountTogetherSaid : Prop := fnExactCountTogetherRow.holds Try.pinned (OpenSpec.ofChange fnExactCountTogetherSpec)

/-- ITS FALSE NEIGHBOUR: 'it returns false'. Refute it at one input. -/
def fnExactCountTogetherWrong : ChangeSpec := { name := "fnExactCountTogether", fn := fun _ => fun
  | [d1, d2] => { results := [.lit (.bool false)], args := [d1, d2] }
  | _ => none }
def FnExactCountTogetherWrongFalsely : Prop := fnExactCountTogetherRow.holds Try.pinned (OpenSpec.ofChange fnExactCountTogetherWrong)

/-- 'laws.FnExactCountInRow': WHATEVER THE INPUT: true; the input reads as it did. -/
def fnExactCountInRowSpec : ChangeSpec := { name := "fnExactCountInRow", fn := fun _ => fun
  | [d1, d2] => { results := [.lit (.bool true)], args := [d1, d2] }
  | _ => none }
def fnExactCountInRowRow : OpenClaim := { program := "ytikpcaiokgbemaa", sum := "4abec5144fec1402c39704f2d2d2f273c3e3bb8455c5fda453366dd599d592c6", func := "loop.example/g01315/laws.FnExactCountInRow", spec := "fnExactCountInRow", unfollowed := true, recurses := true, apart := false }
def FnExactCountInRowSaid : Prop := fnExactCountInRowRow.holds Try.pinned (OpenSpec.ofChange fnExactCountInRowSpec)

/-- ITS FALSE NEIGHBOUR: 'it returns false'. Refute it at one input. -/
def fnExactCountInRowWrong : ChangeSpec := { name := "fnExactCountInRow", fn := fun _ => fun
  | [d1, d2] => { results := [.lit (.bool false)], args := [d1, d2] }
  | _ => none }
def FnExactCountInRowWrongFalsely : Prop := fnExactCountInRowRow.holds Try.pinned (OpenSpec.ofChange fnExactCountInRowWrong)

/-- 'laws.FnExactChanceApart': WHATEVER THE INPUT: true; the input reads as it did. -/
def fnExactChanceApartSpec : ChangeSpec := { name := "fnExactChanceApart", fn := fun _ => fun
  | [d] => { results := [.lit (.bool true)], args := [d] }
  | _ => none }
def fnExactChanceApartRow : OpenClaim := { program := "ytikpcaiokgbemaa", sum := "4abec5144fec1402c39704f2d2d2f273c3e3bb8455c5fda453366dd599d592c6", func := "loop.example/g01315/laws.FnExactChanceApart", spec := "fnExactChanceApart", unfollowed := true, recurses := true, apart := false }
def FnExactChanceApartSaid : Prop := fnExactChanceApartRow.holds Try.pinned (OpenSpec.ofChange fnExactChanceApartSpec)

/-- ITS FALSE NEIGHBOUR: 'it returns false'. Refute it at one input. -/
def fnExactChanceApartWrong : ChangeSpec := { name := "fnExactChanceApart", fn := fun _ => fun
  | [d] => { results := [.lit (.bool false)], args := [d] }
  | _ => none }
def FnExactChanceApartWrongFalsely : Prop := fnExactChanceApartRow.holds Try.pinned (OpenSpec.ofChange fnExactChanceApartWrong)

/-- 'laws.FnExactFirstApart': WHATEVER THE INPUT: true; the input reads as it did. -/
def fnExactFirstApartSpec : ChangeSpec := { name := "fnExactFirstApart", fn := fun _ => fun
  | [d] => { results := [.lit (.bool true)], args := [d] }
  | _ => none }
def fnExactFirstApartRow : OpenClaim := { program := "ytikpcaiokgbemaa", sum := "4abec5144fec1402c39704f2d2d2f273c3e3bb8455c5fda453366dd599d592c6", func := "loop.example/g01315/laws.FnExactFirstApart", spec := "fnExactFirstApart", unfollowed := true, recurses := true, apart := false }
def FnExactFirstApartSaid : Prop := fnExactFirstApartRow.holds Try.pinned (OpenSpec.ofChange fnExactFirstApartSpec)

/-- ITS FALSE NEIGHBOUR: 'it returns false'. Refute it at one input. -/
def fnExactFirstApartWrong : ChangeSpec := { name := "fnExactFirstApart", fn := fun _ => fun
  | [d] => { results := [.lit (.bool false)], args := [d] }
  | _ => none }
def FnExactFirstApartWrongFalsely : Prop := fnExactFirstApartRow.holds Try.pinned (OpenSpec.ofChange fnExactFirstApartWrong)

/-- 'laws.FnExactNextApart': WHATEVER THE INPUT: true; the input reads as it did. -/
def fnExactNextApartSpec : ChangeSpec := { name := "fnExactNextApart", fn := fun _ => fun
  | [d] => { results := [.lit (.bool true)], args := [d] }
  | _ => none }
def fnExactNextApartRow : OpenClaim := { program := "ytikpcaiokgbemaa", sum := "4abec5144fec1402c39704f2d2d2f273c3e3bb8455c5fda453366dd599d592c6", func := "loop.example/g01315/laws.FnExactNextApart", spec := "fnExactNextApart", unfollowed := true, recurses := true, apart := false }
def FnExactNextApartSaid : Prop := fnExactNextApartRow.holds Try.pinned (OpenSpec.ofChange fnExactNextApartSpec)

/-- ITS FALSE NEIGHBOUR: 'it returns false'. Refute it at one input. -/
def fnExactNextApartWrong : ChangeSpec := { name := "fnExactNextApart", fn := fun _ => fun
  | [d] => { results := [.lit (.bool false)], args := [d] }
  | _ => none }
def FnExactNextApartWrongFalsely : Prop := fnExactNextApartRow.holds Try.pinned (OpenSpec.ofChange fnExactNextApartWrong)

/- THE SECOND FORM. 'bulk': how many values and letters a reading holds, each counted each time it is reached (what is shared counts as often as it is met; a slice's spare places count too). A statement '..UptoSaid' is the law's where the arguments, and the package variables that the reading takes, are together of bulk at most 1048576: NARROWER than '..Said'. Prove '..Said' where nothing that the law and all that it calls make is longer than what came in: it says more and counts as full. Else prove '..UptoSaid'. A law counts once. -/
mutual
def uptoBulk {H : Type} : DataW H → Nat
  | .lit (.string bytes) => bytes.length + 1
  | .lit _ => 1
  | .nil => 1
  | .ptr d => uptoBulk d + 1
  | .slice elems spare => uptoBulkAll elems + uptoBulkAll spare + 1
  | .agg parts => uptoBulkAll parts + 1
  | .iface _ d => uptoBulk d + 1
  | .map entries => uptoBulkEntries entries + 1
  | .held _ => 1
def uptoBulkAll {H : Type} : List (DataW H) → Nat
  | [] => 0
  | d :: r => uptoBulk d + uptoBulkAll r
def uptoBulkEntries {H : Type} : List (Lit × DataW H) → Nat
  | [] => 0
  | x :: r => uptoBulkEntry x + uptoBulkEntries r
def uptoBulkEntry {H : Type} : Lit × DataW H → Nat
  | (.string bytes, d) => bytes.length + uptoBulk d + 1
  | (_, d) => uptoBulk d + 1
 end
def uptoSmall : (H : Type) → List (DataW H) → Bool := fun _ ds => decide (uptoBulkAll ds ≤ 1048576)
def OpenSpec.upto (s : _root_.Go.ChangeSpec) : _root_.Go.OpenSpec := { _root_.Go.OpenSpec.ofChange s with cond := some uptoSmall }

/-- 'laws.FnExactCountTogether', WHERE WHAT IT READS IS OF BULK AT MOST 1048576: true; the input reads as it did. -/
def fnExactCountTogetherUptoRow : OpenClaim := { program := "ytikpcaiokgbemaa", sum := "4abec5144fec1402c39704f2d2d2f273c3e3bb8455c5fda453366dd599d592c6", func := "loop.example/g01315/laws.FnExactCountTogether", spec := "fnExactCountTogether", unfollowed := true, recurses := true, apart := false, narrowed := true }
def FnExactCountTogetherUptoSaid : Prop := fnExactCountTogetherUptoRow.holds Try.pinned (OpenSpec.upto fnExactCountTogetherSpec)

/-- 'laws.FnExactCountInRow', WHERE WHAT IT READS IS OF BULK AT MOST 1048576: true; the input reads as it did. -/
def fnExactCountInRowUptoRow : OpenClaim := { program := "ytikpcaiokgbemaa", sum := "4abec5144fec1402c39704f2d2d2f273c3e3bb8455c5fda453366dd599d592c6", func := "loop.example/g01315/laws.FnExactCountInRow", spec := "fnExactCountInRow", unfollowed := true, recurses := true, apart := false, narrowed := true }
def FnExactCountInRowUptoSaid : Prop := fnExactCountInRowUptoRow.holds Try.pinned (OpenSpec.upto fnExactCountInRowSpec)

/-- 'laws.FnExactChanceApart', WHERE WHAT IT READS IS OF BULK AT MOST 1048576: true; the input reads as it did. -/
def fnExactChanceApartUptoRow : OpenClaim := { program := "ytikpcaiokgbemaa", sum := "4abec5144fec1402c39704f2d2d2f273c3e3bb8455c5fda453366dd599d592c6", func := "loop.example/g01315/laws.FnExactChanceApart", spec := "fnExactChanceApart", unfollowed := true, recurses := true, apart := false, narrowed := true }
def FnExactChanceApartUptoSaid : Prop := fnExactChanceApartUptoRow.holds Try.pinned (OpenSpec.upto fnExactChanceApartSpec)

/-- 'laws.FnExactFirstApart', WHERE WHAT IT READS IS OF BULK AT MOST 1048576: true; the input reads as it did. -/
def fnExactFirstApartUptoRow : OpenClaim := { program := "ytikpcaiokgbemaa", sum := "4abec5144fec1402c39704f2d2d2f273c3e3bb8455c5fda453366dd599d592c6", func := "loop.example/g01315/laws.FnExactFirstApart", spec := "fnExactFirstApart", unfollowed := true, recurses := true, apart := false, narrowed := true }
def FnExactFirstApartUptoSaid : Prop := fnExactFirstApartUptoRow.holds Try.pinned (OpenSpec.upto fnExactFirstApartSpec)

/-- 'laws.FnExactNextApart', WHERE WHAT IT READS IS OF BULK AT MOST 1048576: true; the input reads as it did. -/
def fnExactNextApartUptoRow : OpenClaim := { program := "ytikpcaiokgbemaa", sum := "4abec5144fec1402c39704f2d2d2f273c3e3bb8455c5fda453366dd599d592c6", func := "loop.example/g01315/laws.FnExactNextApart", spec := "fnExactNextApart", unfollowed := true, recurses := true, apart := false, narrowed := true }
def FnExactNextApartUptoSaid : Prop := fnExactNextApartUptoRow.holds Try.pinned (OpenSpec.upto fnExactNextApartSpec)

end Rows
end Go.Proofs.Ytikpcaiokgbemaa
