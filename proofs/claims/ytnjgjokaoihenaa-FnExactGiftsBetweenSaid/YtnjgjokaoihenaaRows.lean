/-
  No cell of these rows narrows 'for every input' (looked for: loops, veiled, ifaces, maps, wideKeys, modest, calm, conditions, laid).
  DERIVED. THE GIVEN ROWS OF THIS SEAT. 7 by the template 'for every input the law returns true; each argument reads behind the call as it read before'; 0 by the template 'total and deterministic' (their statements: YtnjgjokaoihenaaTotals.lean).
  GIVEN WITH THE SEED: the statements are not yours to turn. If you find one false, say at which input.
  Laid BY PROGRAM, IN A SANDBOX (cutbox-rows.mjs): the forced cells as the released guide's own fill.sh prints them over the translation f036ac95e64b56fb… (all of the seat's roots in one cut). By AI agents, Wed Nov 11 2026. No macro, syntax, notation, axiom, sorry.
-/
import Derived.Test.YtnjgjokaoihenaaChecked
import GoSem.Claim
import GoSem.ClaimJoined
import GoSem.ClaimMapViews
import Derived.JoinedTies
import Derived.KernelRfl
namespace Go.Proofs.Ytnjgjokaoihenaa
/- THE CELL 'sum', in the pinned program and in every row, IS THE sha256 OF THE DUMP (.gsa) THAT YtnjgjokaoihenaaProg.lean LOADS. Nothing in Lean hashes anything: it is a label: what it is worth is what the hold of that sum in a sandbox is worth. -/
noncomputable def Try.pinned : Pinned := { name := "ytnjgjokaoihenaa", sum := "f036ac95e64b56fbeab1f36c1bebeb2f5d173e0ad9856e5feefe986ea0c5b6f6", checked := Try.checked }
namespace Rows
def none {H : Type} : Left H := { results := [], args := [] }

/-- 'laws.FnExactAreFamilies': WHATEVER THE INPUT: true; the input reads as it did. -/
def fnExactAreFamiliesSpec : ChangeSpec := { name := "fnExactAreFamilies", fn := fun _ => fun
  | [d] => { results := [.lit (.bool true)], args := [d] }
  | _ => none }
def fnExactAreFamiliesRow : OpenClaim := { program := "ytnjgjokaoihenaa", sum := "f036ac95e64b56fbeab1f36c1bebeb2f5d173e0ad9856e5feefe986ea0c5b6f6", func := "loop.example/g01315/laws.FnExactAreFamilies", spec := "fnExactAreFamilies", apart := false }
def FnExactAreFamiliesSaid : Prop := fnExactAreFamiliesRow.holds Try.pinned (OpenSpec.ofChange fnExactAreFamiliesSpec)

/-- ITS FALSE NEIGHBOUR: 'it returns false'. Refute it at one input. -/
def fnExactAreFamiliesWrong : ChangeSpec := { name := "fnExactAreFamilies", fn := fun _ => fun
  | [d] => { results := [.lit (.bool false)], args := [d] }
  | _ => none }
def FnExactAreFamiliesWrongFalsely : Prop := fnExactAreFamiliesRow.holds Try.pinned (OpenSpec.ofChange fnExactAreFamiliesWrong)

/-- 'laws.FnExactFamilySizes': WHATEVER THE INPUT: true; the input reads as it did. -/
def fnExactFamilySizesSpec : ChangeSpec := { name := "fnExactFamilySizes", fn := fun _ => fun
  | [d] => { results := [.lit (.bool true)], args := [d] }
  | _ => none }
def fnExactFamilySizesRow : OpenClaim := { program := "ytnjgjokaoihenaa", sum := "f036ac95e64b56fbeab1f36c1bebeb2f5d173e0ad9856e5feefe986ea0c5b6f6", func := "loop.example/g01315/laws.FnExactFamilySizes", spec := "fnExactFamilySizes", apart := false }
def FnExactFamilySizesSaid : Prop := fnExactFamilySizesRow.holds Try.pinned (OpenSpec.ofChange fnExactFamilySizesSpec)

/-- ITS FALSE NEIGHBOUR: 'it returns false'. Refute it at one input. -/
def fnExactFamilySizesWrong : ChangeSpec := { name := "fnExactFamilySizes", fn := fun _ => fun
  | [d] => { results := [.lit (.bool false)], args := [d] }
  | _ => none }
def FnExactFamilySizesWrongFalsely : Prop := fnExactFamilySizesRow.holds Try.pinned (OpenSpec.ofChange fnExactFamilySizesWrong)

/-- 'laws.FnExactIsGiving': WHATEVER THE INPUT: true; the input reads as it did. -/
def fnExactIsGivingSpec : ChangeSpec := { name := "fnExactIsGiving", fn := fun _ => fun
  | [d1, d2] => { results := [.lit (.bool true)], args := [d1, d2] }
  | _ => none }
def fnExactIsGivingRow : OpenClaim := { program := "ytnjgjokaoihenaa", sum := "f036ac95e64b56fbeab1f36c1bebeb2f5d173e0ad9856e5feefe986ea0c5b6f6", func := "loop.example/g01315/laws.FnExactIsGiving", spec := "fnExactIsGiving", apart := false }
def FnExactIsGivingSaid : Prop := fnExactIsGivingRow.holds Try.pinned (OpenSpec.ofChange fnExactIsGivingSpec)

/-- ITS FALSE NEIGHBOUR: 'it returns false'. Refute it at one input. -/
def fnExactIsGivingWrong : ChangeSpec := { name := "fnExactIsGiving", fn := fun _ => fun
  | [d1, d2] => { results := [.lit (.bool false)], args := [d1, d2] }
  | _ => none }
def FnExactIsGivingWrongFalsely : Prop := fnExactIsGivingRow.holds Try.pinned (OpenSpec.ofChange fnExactIsGivingWrong)

/-- 'laws.FnExactCanGive': WHATEVER THE INPUT: true; the input reads as it did. -/
def fnExactCanGiveSpec : ChangeSpec := { name := "fnExactCanGive", fn := fun _ => fun
  | [d] => { results := [.lit (.bool true)], args := [d] }
  | _ => none }
def fnExactCanGiveRow : OpenClaim := { program := "ytnjgjokaoihenaa", sum := "f036ac95e64b56fbeab1f36c1bebeb2f5d173e0ad9856e5feefe986ea0c5b6f6", func := "loop.example/g01315/laws.FnExactCanGive", spec := "fnExactCanGive", apart := false }
def FnExactCanGiveSaid : Prop := fnExactCanGiveRow.holds Try.pinned (OpenSpec.ofChange fnExactCanGiveSpec)

/-- ITS FALSE NEIGHBOUR: 'it returns false'. Refute it at one input. -/
def fnExactCanGiveWrong : ChangeSpec := { name := "fnExactCanGive", fn := fun _ => fun
  | [d] => { results := [.lit (.bool false)], args := [d] }
  | _ => none }
def FnExactCanGiveWrongFalsely : Prop := fnExactCanGiveRow.holds Try.pinned (OpenSpec.ofChange fnExactCanGiveWrong)

/-- 'laws.FnExactJoinFamilies': WHATEVER THE INPUT: true; the input reads as it did. -/
def fnExactJoinFamiliesSpec : ChangeSpec := { name := "fnExactJoinFamilies", fn := fun _ => fun
  | [d1, d2, d3] => { results := [.lit (.bool true)], args := [d1, d2, d3] }
  | _ => none }
def fnExactJoinFamiliesRow : OpenClaim := { program := "ytnjgjokaoihenaa", sum := "f036ac95e64b56fbeab1f36c1bebeb2f5d173e0ad9856e5feefe986ea0c5b6f6", func := "loop.example/g01315/laws.FnExactJoinFamilies", spec := "fnExactJoinFamilies", apart := false }
def FnExactJoinFamiliesSaid : Prop := fnExactJoinFamiliesRow.holds Try.pinned (OpenSpec.ofChange fnExactJoinFamiliesSpec)

/-- ITS FALSE NEIGHBOUR: 'it returns false'. Refute it at one input. -/
def fnExactJoinFamiliesWrong : ChangeSpec := { name := "fnExactJoinFamilies", fn := fun _ => fun
  | [d1, d2, d3] => { results := [.lit (.bool false)], args := [d1, d2, d3] }
  | _ => none }
def FnExactJoinFamiliesWrongFalsely : Prop := fnExactJoinFamiliesRow.holds Try.pinned (OpenSpec.ofChange fnExactJoinFamiliesWrong)

/-- 'laws.FnExactLeaveFamily': WHATEVER THE INPUT: true; the input reads as it did. -/
def fnExactLeaveFamilySpec : ChangeSpec := { name := "fnExactLeaveFamily", fn := fun _ => fun
  | [d1, d2] => { results := [.lit (.bool true)], args := [d1, d2] }
  | _ => none }
def fnExactLeaveFamilyRow : OpenClaim := { program := "ytnjgjokaoihenaa", sum := "f036ac95e64b56fbeab1f36c1bebeb2f5d173e0ad9856e5feefe986ea0c5b6f6", func := "loop.example/g01315/laws.FnExactLeaveFamily", spec := "fnExactLeaveFamily", apart := false }
def FnExactLeaveFamilySaid : Prop := fnExactLeaveFamilyRow.holds Try.pinned (OpenSpec.ofChange fnExactLeaveFamilySpec)

/-- ITS FALSE NEIGHBOUR: 'it returns false'. Refute it at one input. -/
def fnExactLeaveFamilyWrong : ChangeSpec := { name := "fnExactLeaveFamily", fn := fun _ => fun
  | [d1, d2] => { results := [.lit (.bool false)], args := [d1, d2] }
  | _ => none }
def FnExactLeaveFamilyWrongFalsely : Prop := fnExactLeaveFamilyRow.holds Try.pinned (OpenSpec.ofChange fnExactLeaveFamilyWrong)

/-- 'laws.FnExactGiftsBetween': WHATEVER THE INPUT: true; the input reads as it did. -/
def fnExactGiftsBetweenSpec : ChangeSpec := { name := "fnExactGiftsBetween", fn := fun _ => fun
  | [d1, d2] => { results := [.lit (.bool true)], args := [d1, d2] }
  | _ => none }
def fnExactGiftsBetweenRow : OpenClaim := { program := "ytnjgjokaoihenaa", sum := "f036ac95e64b56fbeab1f36c1bebeb2f5d173e0ad9856e5feefe986ea0c5b6f6", func := "loop.example/g01315/laws.FnExactGiftsBetween", spec := "fnExactGiftsBetween", apart := false }
def FnExactGiftsBetweenSaid : Prop := fnExactGiftsBetweenRow.holds Try.pinned (OpenSpec.ofChange fnExactGiftsBetweenSpec)

/-- ITS FALSE NEIGHBOUR: 'it returns false'. Refute it at one input. -/
def fnExactGiftsBetweenWrong : ChangeSpec := { name := "fnExactGiftsBetween", fn := fun _ => fun
  | [d1, d2] => { results := [.lit (.bool false)], args := [d1, d2] }
  | _ => none }
def FnExactGiftsBetweenWrongFalsely : Prop := fnExactGiftsBetweenRow.holds Try.pinned (OpenSpec.ofChange fnExactGiftsBetweenWrong)

/- THE SECOND FORM. 'bulk': how many values and letters a reading holds, each counted each time it is reached (what is shared counts as often as it is met; a slice's spare places count too). A statement '..UptoSaid' is the law's where the arguments, and the package variables that the reading takes, are together of bulk at most 1048576: NARROWER than '..Said'. Prove '..Said' where nothing that the law and all that it calls make is longer than what came in: it says more and counts as full. Else prove '..UptoSaid'. A law counts once. -/
mutual
def uptoBulk {H : Type} : DataW H → Nat
  | .lit (.string bytes) => bytes.length + 1
  | .lit _ => 1
  | .nil => 1
  | .ptr d => uptoBulk d + 1
  | .slice elems spare => uptoBulkAll elems + uptoBulkAll spare + 1
  | .agg parts => uptoBulkAll parts + 1
  | .iface _ d => uptoBulk d + 1
  | .map entries => uptoBulkEntries entries + 1
  | .held _ => 1
def uptoBulkAll {H : Type} : List (DataW H) → Nat
  | [] => 0
  | d :: r => uptoBulk d + uptoBulkAll r
def uptoBulkEntries {H : Type} : List (Lit × DataW H) → Nat
  | [] => 0
  | x :: r => uptoBulkEntry x + uptoBulkEntries r
def uptoBulkEntry {H : Type} : Lit × DataW H → Nat
  | (.string bytes, d) => bytes.length + uptoBulk d + 1
  | (_, d) => uptoBulk d + 1
 end
def uptoSmall : (H : Type) → List (DataW H) → Bool := fun _ ds => decide (uptoBulkAll ds ≤ 1048576)
def OpenSpec.upto (s : _root_.Go.ChangeSpec) : _root_.Go.OpenSpec := { _root_.Go.OpenSpec.ofChange s with cond := some uptoSmall }

/-- 'laws.FnExactAreFamilies', WHERE WHAT IT READS IS OF BULK AT MOST 1048576: true; the input reads as it did. -/
def fnExactAreFamiliesUptoRow : OpenClaim := { program := "ytnjgjokaoihenaa", sum := "f036ac95e64b56fbeab1f36c1bebeb2f5d173e0ad9856e5feefe986ea0c5b6f6", func := "loop.example/g01315/laws.FnExactAreFamilies", spec := "fnExactAreFamilies", apart := false, narrowed := true }
def FnExactAreFamiliesUptoSaid : Prop := fnExactAreFamiliesUptoRow.holds Try.pinned (OpenSpec.upto fnExactAreFamiliesSpec)

/-- 'laws.FnExactFamilySizes', WHERE WHAT IT READS IS OF BULK AT MOST 1048576: true; the input reads as it did. -/
def fnExactFamilySizesUptoRow : OpenClaim := { program := "ytnjgjokaoihenaa", sum := "f036ac95e64b56fbeab1f36c1bebeb2f5d173e0ad9856e5feefe986ea0c5b6f6", func := "loop.example/g01315/laws.FnExactFamilySizes", spec := "fnExactFamilySizes", apart := false, narrowed := true }
def FnExactFamilySizesUptoSaid : Prop := fnExactFamilySizesUptoRow.holds Try.pinned (OpenSpec.upto fnExactFamilySizesSpec)

/-- 'laws.FnExactIsGiving', WHERE WHAT IT READS IS OF BULK AT MOST 1048576: true; the input reads as it did. -/
def fnExactIsGivingUptoRow : OpenClaim := { program := "ytnjgjokaoihenaa", sum := "f036ac95e64b56fbeab1f36c1bebeb2f5d173e0ad9856e5feefe986ea0c5b6f6", func := "loop.example/g01315/laws.FnExactIsGiving", spec := "fnExactIsGiving", apart := false, narrowed := true }
def FnExactIsGivingUptoSaid : Prop := fnExactIsGivingUptoRow.holds Try.pinned (OpenSpec.upto fnExactIsGivingSpec)

/-- 'laws.FnExactCanGive', WHERE WHAT IT READS IS OF BULK AT MOST 1048576: true; the input reads as it did. -/
def fnExactCanGiveUptoRow : OpenClaim := { program := "ytnjgjokaoihenaa", sum := "f036ac95e64b56fbeab1f36c1bebeb2f5d173e0ad9856e5feefe986ea0c5b6f6", func := "loop.example/g01315/laws.FnExactCanGive", spec := "fnExactCanGive", apart := false, narrowed := true }
def FnExactCanGiveUptoSaid : Prop := fnExactCanGiveUptoRow.holds Try.pinned (OpenSpec.upto fnExactCanGiveSpec)

/-- 'laws.FnExactJoinFamilies', WHERE WHAT IT READS IS OF BULK AT MOST 1048576: true; the input reads as it did. -/
def fnExactJoinFamiliesUptoRow : OpenClaim := { program := "ytnjgjokaoihenaa", sum := "f036ac95e64b56fbeab1f36c1bebeb2f5d173e0ad9856e5feefe986ea0c5b6f6", func := "loop.example/g01315/laws.FnExactJoinFamilies", spec := "fnExactJoinFamilies", apart := false, narrowed := true }
def FnExactJoinFamiliesUptoSaid : Prop := fnExactJoinFamiliesUptoRow.holds Try.pinned (OpenSpec.upto fnExactJoinFamiliesSpec)

/-- 'laws.FnExactLeaveFamily', WHERE WHAT IT READS IS OF BULK AT MOST 1048576: true; the input reads as it did. -/
def fnExactLeaveFamilyUptoRow : OpenClaim := { program := "ytnjgjokaoihenaa", sum := "f036ac95e64b56fbeab1f36c1bebeb2f5d173e0ad9856e5feefe986ea0c5b6f6", func := "loop.example/g01315/laws.FnExactLeaveFamily", spec := "fnExactLeaveFamily", apart := false, narrowed := true }
def FnExactLeaveFamilyUptoSaid : Prop := fnExactLeaveFamilyUptoRow.holds Try.pinned (OpenSpec.upto fnExactLeaveFamilySpec)

/-- 'laws.FnExactGiftsBetween', WHERE WHAT IT READS IS OF BULK AT MOST 1048576: true; the input reads as it did. -/
def fnExactGiftsBetweenUptoRow : OpenClaim := { program := "ytnjgjokaoihenaa", sum := "f036ac95e64b56fbeab1f36c1bebeb2f5d173e0ad9856e5feefe986ea0c5b6f6", func := "loop.example/g01315/laws.FnExactGiftsBetween", spec := "fnExactGiftsBetween", apart := false, narrowed := true }
def FnExactGiftsBetweenUptoSaid : Prop := fnExactGiftsBetweenUptoRow.holds Try.pinned (OpenSpec.upto fnExactGiftsBetweenSpec)

end Rows
end Go.Proofs.Ytnjgjokaoihenaa
