/-
  NARROWER THAN 'FOR EVERY INPUT', by the rows' own cells (each row's printed sentence says how): FnExactIsHatPlan: laid · FnExactViewOf: laid · FnExactGuessesOf: laid · FnExactRightGuests: laid · FnExactLeastRight: laid · FnExactMostRight: laid · FnExactCountByRight: laid · FnExactWorstHats: laid · FnExactMaskPlan: laid.
  DERIVED. THE GIVEN ROWS OF THIS SEAT. 9 by the template 'for every input the law returns true; each argument reads behind the call as it read before'; 0 by the template 'total and deterministic' (their statements: YtenaaellhghfgaaDoorTotals.lean).
  GIVEN WITH THE SEED: the statements are not yours to turn. If you find one false, say at which input.
  Laid BY PROGRAM, IN A SANDBOX (cutbox-rows.mjs): the forced cells as the released guide's own fill.sh prints them over the translation a8b7efecd7c2defc… (all of the seat's roots in one cut). By AI agents, Wed Nov 11 2026. No macro, syntax, notation, axiom, sorry.
-/
import Derived.Test.YtenaaellhghfgaaDoorChecked
import GoSem.Claim
import GoSem.ClaimJoined
import GoSem.ClaimMapViews
import Derived.JoinedTies
import Derived.KernelRfl
namespace Go.Proofs.YtenaaellhghfgaaDoor
/- THE CELL 'sum', in the pinned program and in every row, IS THE sha256 OF THE DUMP (.gsa) THAT YtenaaellhghfgaaDoorProg.lean LOADS. Nothing in Lean hashes anything: it is a label: what it is worth is what the hold of that sum in a sandbox is worth. -/
noncomputable def Tryd.pinned : Pinned := { name := "ytenaaellhghfgaadoor", sum := "a8b7efecd7c2defcf1daa76ef736754a12c5c55915369b5279ff3cde152ce079", checked := Tryd.checked }
namespace Rows
def none {H : Type} : Left H := { results := [], args := [] }

/- WHAT THE LISTED PACKAGE-LEVEL VARIABLES READ AS WHEN THE CALL BEGINS. Each datum BY PROGRAM (the guide's laid-datum.mjs) off the statement by which the dump's own 'gosem.cut.vars' lays the variable. In a bare row this is a premise. The card (YtenaaellhghfgaaDoorCards.lean) ties it to the program's text. -/
def laid_math_bits_deBruijn32tab {H : Type} : DataW H := .agg [.lit (.int .u8 0), .lit (.int .u8 1), .lit (.int .u8 28), .lit (.int .u8 2), .lit (.int .u8 29), .lit (.int .u8 14), .lit (.int .u8 24), .lit (.int .u8 3), .lit (.int .u8 30), .lit (.int .u8 22), .lit (.int .u8 20), .lit (.int .u8 15), .lit (.int .u8 25), .lit (.int .u8 17), .lit (.int .u8 4), .lit (.int .u8 8), .lit (.int .u8 31), .lit (.int .u8 27), .lit (.int .u8 13), .lit (.int .u8 23), .lit (.int .u8 21), .lit (.int .u8 19), .lit (.int .u8 16), .lit (.int .u8 7), .lit (.int .u8 26), .lit (.int .u8 12), .lit (.int .u8 18), .lit (.int .u8 6), .lit (.int .u8 11), .lit (.int .u8 5), .lit (.int .u8 10), .lit (.int .u8 9)]
def laid_math_bits_deBruijn64tab {H : Type} : DataW H := .agg [.lit (.int .u8 0), .lit (.int .u8 1), .lit (.int .u8 56), .lit (.int .u8 2), .lit (.int .u8 57), .lit (.int .u8 49), .lit (.int .u8 28), .lit (.int .u8 3), .lit (.int .u8 61), .lit (.int .u8 58), .lit (.int .u8 42), .lit (.int .u8 50), .lit (.int .u8 38), .lit (.int .u8 29), .lit (.int .u8 17), .lit (.int .u8 4), .lit (.int .u8 62), .lit (.int .u8 47), .lit (.int .u8 59), .lit (.int .u8 36), .lit (.int .u8 45), .lit (.int .u8 43), .lit (.int .u8 51), .lit (.int .u8 22), .lit (.int .u8 53), .lit (.int .u8 39), .lit (.int .u8 33), .lit (.int .u8 30), .lit (.int .u8 24), .lit (.int .u8 18), .lit (.int .u8 12), .lit (.int .u8 5), .lit (.int .u8 63), .lit (.int .u8 55), .lit (.int .u8 48), .lit (.int .u8 27), .lit (.int .u8 60), .lit (.int .u8 41), .lit (.int .u8 37), .lit (.int .u8 16), .lit (.int .u8 46), .lit (.int .u8 35), .lit (.int .u8 44), .lit (.int .u8 21), .lit (.int .u8 52), .lit (.int .u8 32), .lit (.int .u8 23), .lit (.int .u8 11), .lit (.int .u8 54), .lit (.int .u8 26), .lit (.int .u8 40), .lit (.int .u8 15), .lit (.int .u8 34), .lit (.int .u8 20), .lit (.int .u8 31), .lit (.int .u8 10), .lit (.int .u8 25), .lit (.int .u8 14), .lit (.int .u8 19), .lit (.int .u8 9), .lit (.int .u8 13), .lit (.int .u8 8), .lit (.int .u8 7), .lit (.int .u8 6)]
def laid_internal_strconv_uint64pow10 {H : Type} : DataW H := .agg [.lit (.int .u64 1), .lit (.int .u64 10), .lit (.int .u64 100), .lit (.int .u64 1000), .lit (.int .u64 10000), .lit (.int .u64 100000), .lit (.int .u64 1000000), .lit (.int .u64 10000000), .lit (.int .u64 100000000), .lit (.int .u64 1000000000), .lit (.int .u64 10000000000), .lit (.int .u64 100000000000), .lit (.int .u64 1000000000000), .lit (.int .u64 10000000000000), .lit (.int .u64 100000000000000), .lit (.int .u64 1000000000000000), .lit (.int .u64 10000000000000000), .lit (.int .u64 100000000000000000), .lit (.int .u64 1000000000000000000), .lit (.int .u64 10000000000000000000)]

/-- 'laws.FnExactIsHatPlan': WHATEVER THE INPUT: true; the input reads as it did. -/
def fnExactIsHatPlanSpec : ChangeSpec := { name := "fnExactIsHatPlan", fn := fun _ => fun
  | [d] => { results := [.lit (.bool true)], args := [d] }
  | _ => none }
def fnExactIsHatPlanRow : OpenClaim := { program := "ytenaaellhghfgaadoor", sum := "a8b7efecd7c2defcf1daa76ef736754a12c5c55915369b5279ff3cde152ce079", func := "loop.example/g01315/laws.FnExactIsHatPlan", spec := "fnExactIsHatPlan", named := ["internal/strconv.uint64pow10", "math/bits.deBruijn32tab", "math/bits.deBruijn64tab"], plainKeys := false, apart := false, laid := [("math/bits.deBruijn32tab", laid_math_bits_deBruijn32tab), ("math/bits.deBruijn64tab", laid_math_bits_deBruijn64tab), ("internal/strconv.uint64pow10", laid_internal_strconv_uint64pow10)] }
def FnExactIsHatPlanSaid : Prop := fnExactIsHatPlanRow.holds Tryd.pinned (OpenSpec.ofChange fnExactIsHatPlanSpec)

/-- ITS FALSE NEIGHBOUR: 'it returns false'. Refute it at one input. -/
def fnExactIsHatPlanWrong : ChangeSpec := { name := "fnExactIsHatPlan", fn := fun _ => fun
  | [d] => { results := [.lit (.bool false)], args := [d] }
  | _ => none }
def FnExactIsHatPlanWrongFalsely : Prop := fnExactIsHatPlanRow.holds Tryd.pinned (OpenSpec.ofChange fnExactIsHatPlanWrong)

/-- 'laws.FnExactViewOf': WHATEVER THE INPUT: true; the input reads as it did. -/
def fnExactViewOfSpec : ChangeSpec := { name := "fnExactViewOf", fn := fun _ => fun
  | [d1, d2, d3] => { results := [.lit (.bool true)], args := [d1, d2, d3] }
  | _ => none }
def fnExactViewOfRow : OpenClaim := { program := "ytenaaellhghfgaadoor", sum := "a8b7efecd7c2defcf1daa76ef736754a12c5c55915369b5279ff3cde152ce079", func := "loop.example/g01315/laws.FnExactViewOf", spec := "fnExactViewOf", named := ["internal/strconv.uint64pow10", "math/bits.deBruijn32tab", "math/bits.deBruijn64tab"], plainKeys := false, apart := false, laid := [("math/bits.deBruijn32tab", laid_math_bits_deBruijn32tab), ("math/bits.deBruijn64tab", laid_math_bits_deBruijn64tab), ("internal/strconv.uint64pow10", laid_internal_strconv_uint64pow10)] }
def FnExactViewOfSaid : Prop := fnExactViewOfRow.holds Tryd.pinned (OpenSpec.ofChange fnExactViewOfSpec)

/-- ITS FALSE NEIGHBOUR: 'it returns false'. Refute it at one input. -/
def fnExactViewOfWrong : ChangeSpec := { name := "fnExactViewOf", fn := fun _ => fun
  | [d1, d2, d3] => { results := [.lit (.bool false)], args := [d1, d2, d3] }
  | _ => none }
def FnExactViewOfWrongFalsely : Prop := fnExactViewOfRow.holds Tryd.pinned (OpenSpec.ofChange fnExactViewOfWrong)

/-- 'laws.FnExactGuessesOf': WHATEVER THE INPUT: true; the input reads as it did. -/
def fnExactGuessesOfSpec : ChangeSpec := { name := "fnExactGuessesOf", fn := fun _ => fun
  | [d1, d2] => { results := [.lit (.bool true)], args := [d1, d2] }
  | _ => none }
def fnExactGuessesOfRow : OpenClaim := { program := "ytenaaellhghfgaadoor", sum := "a8b7efecd7c2defcf1daa76ef736754a12c5c55915369b5279ff3cde152ce079", func := "loop.example/g01315/laws.FnExactGuessesOf", spec := "fnExactGuessesOf", named := ["internal/strconv.uint64pow10", "math/bits.deBruijn32tab", "math/bits.deBruijn64tab"], plainKeys := false, apart := false, laid := [("math/bits.deBruijn32tab", laid_math_bits_deBruijn32tab), ("math/bits.deBruijn64tab", laid_math_bits_deBruijn64tab), ("internal/strconv.uint64pow10", laid_internal_strconv_uint64pow10)] }
def FnExactGuessesOfSaid : Prop := fnExactGuessesOfRow.holds Tryd.pinned (OpenSpec.ofChange fnExactGuessesOfSpec)

/-- ITS FALSE NEIGHBOUR: 'it returns false'. Refute it at one input. -/
def fnExactGuessesOfWrong : ChangeSpec := { name := "fnExactGuessesOf", fn := fun _ => fun
  | [d1, d2] => { results := [.lit (.bool false)], args := [d1, d2] }
  | _ => none }
def FnExactGuessesOfWrongFalsely : Prop := fnExactGuessesOfRow.holds Tryd.pinned (OpenSpec.ofChange fnExactGuessesOfWrong)

/-- 'laws.FnExactRightGuests': WHATEVER THE INPUT: true; the input reads as it did. -/
def fnExactRightGuestsSpec : ChangeSpec := { name := "fnExactRightGuests", fn := fun _ => fun
  | [d1, d2] => { results := [.lit (.bool true)], args := [d1, d2] }
  | _ => none }
def fnExactRightGuestsRow : OpenClaim := { program := "ytenaaellhghfgaadoor", sum := "a8b7efecd7c2defcf1daa76ef736754a12c5c55915369b5279ff3cde152ce079", func := "loop.example/g01315/laws.FnExactRightGuests", spec := "fnExactRightGuests", named := ["internal/strconv.uint64pow10", "math/bits.deBruijn32tab", "math/bits.deBruijn64tab"], plainKeys := false, apart := false, laid := [("math/bits.deBruijn32tab", laid_math_bits_deBruijn32tab), ("math/bits.deBruijn64tab", laid_math_bits_deBruijn64tab), ("internal/strconv.uint64pow10", laid_internal_strconv_uint64pow10)] }
def FnExactRightGuestsSaid : Prop := fnExactRightGuestsRow.holds Tryd.pinned (OpenSpec.ofChange fnExactRightGuestsSpec)

/-- ITS FALSE NEIGHBOUR: 'it returns false'. Refute it at one input. -/
def fnExactRightGuestsWrong : ChangeSpec := { name := "fnExactRightGuests", fn := fun _ => fun
  | [d1, d2] => { results := [.lit (.bool false)], args := [d1, d2] }
  | _ => none }
def FnExactRightGuestsWrongFalsely : Prop := fnExactRightGuestsRow.holds Tryd.pinned (OpenSpec.ofChange fnExactRightGuestsWrong)

/-- 'laws.FnExactLeastRight': WHATEVER THE INPUT: true; the input reads as it did. -/
def fnExactLeastRightSpec : ChangeSpec := { name := "fnExactLeastRight", fn := fun _ => fun
  | [d] => { results := [.lit (.bool true)], args := [d] }
  | _ => none }
def fnExactLeastRightRow : OpenClaim := { program := "ytenaaellhghfgaadoor", sum := "a8b7efecd7c2defcf1daa76ef736754a12c5c55915369b5279ff3cde152ce079", func := "loop.example/g01315/laws.FnExactLeastRight", spec := "fnExactLeastRight", recurses := true, named := ["internal/strconv.uint64pow10", "math/bits.deBruijn32tab", "math/bits.deBruijn64tab"], plainKeys := false, apart := false, laid := [("math/bits.deBruijn32tab", laid_math_bits_deBruijn32tab), ("math/bits.deBruijn64tab", laid_math_bits_deBruijn64tab), ("internal/strconv.uint64pow10", laid_internal_strconv_uint64pow10)] }
def FnExactLeastRightSaid : Prop := fnExactLeastRightRow.holds Tryd.pinned (OpenSpec.ofChange fnExactLeastRightSpec)

/-- ITS FALSE NEIGHBOUR: 'it returns false'. Refute it at one input. -/
def fnExactLeastRightWrong : ChangeSpec := { name := "fnExactLeastRight", fn := fun _ => fun
  | [d] => { results := [.lit (.bool false)], args := [d] }
  | _ => none }
def FnExactLeastRightWrongFalsely : Prop := fnExactLeastRightRow.holds Tryd.pinned (OpenSpec.ofChange fnExactLeastRightWrong)

/-- 'laws.FnExactMostRight': WHATEVER THE INPUT: true; the input reads as it did. -/
def fnExactMostRightSpec : ChangeSpec := { name := "fnExactMostRight", fn := fun _ => fun
  | [d] => { results := [.lit (.bool true)], args := [d] }
  | _ => none }
def fnExactMostRightRow : OpenClaim := { program := "ytenaaellhghfgaadoor", sum := "a8b7efecd7c2defcf1daa76ef736754a12c5c55915369b5279ff3cde152ce079", func := "loop.example/g01315/laws.FnExactMostRight", spec := "fnExactMostRight", recurses := true, named := ["internal/strconv.uint64pow10", "math/bits.deBruijn32tab", "math/bits.deBruijn64tab"], plainKeys := false, apart := false, laid := [("math/bits.deBruijn32tab", laid_math_bits_deBruijn32tab), ("math/bits.deBruijn64tab", laid_math_bits_deBruijn64tab), ("internal/strconv.uint64pow10", laid_internal_strconv_uint64pow10)] }
def FnExactMostRightSaid : Prop := fnExactMostRightRow.holds Tryd.pinned (OpenSpec.ofChange fnExactMostRightSpec)

/-- ITS FALSE NEIGHBOUR: 'it returns false'. Refute it at one input. -/
def fnExactMostRightWrong : ChangeSpec := { name := "fnExactMostRight", fn := fun _ => fun
  | [d] => { results := [.lit (.bool false)], args := [d] }
  | _ => none }
def FnExactMostRightWrongFalsely : Prop := fnExactMostRightRow.holds Tryd.pinned (OpenSpec.ofChange fnExactMostRightWrong)

/-- 'laws.FnExactCountByRight': WHATEVER THE INPUT: true; the input reads as it did. -/
def fnExactCountByRightSpec : ChangeSpec := { name := "fnExactCountByRight", fn := fun _ => fun
  | [d] => { results := [.lit (.bool true)], args := [d] }
  | _ => none }
def fnExactCountByRightRow : OpenClaim := { program := "ytenaaellhghfgaadoor", sum := "a8b7efecd7c2defcf1daa76ef736754a12c5c55915369b5279ff3cde152ce079", func := "loop.example/g01315/laws.FnExactCountByRight", spec := "fnExactCountByRight", recurses := true, named := ["internal/strconv.uint64pow10", "math/bits.deBruijn32tab", "math/bits.deBruijn64tab"], plainKeys := false, apart := false, laid := [("math/bits.deBruijn32tab", laid_math_bits_deBruijn32tab), ("math/bits.deBruijn64tab", laid_math_bits_deBruijn64tab), ("internal/strconv.uint64pow10", laid_internal_strconv_uint64pow10)] }
def FnExactCountByRightSaid : Prop := fnExactCountByRightRow.holds Tryd.pinned (OpenSpec.ofChange fnExactCountByRightSpec)

/-- ITS FALSE NEIGHBOUR: 'it returns false'. Refute it at one input. -/
def fnExactCountByRightWrong : ChangeSpec := { name := "fnExactCountByRight", fn := fun _ => fun
  | [d] => { results := [.lit (.bool false)], args := [d] }
  | _ => none }
def FnExactCountByRightWrongFalsely : Prop := fnExactCountByRightRow.holds Tryd.pinned (OpenSpec.ofChange fnExactCountByRightWrong)

/-- 'laws.FnExactWorstHats': WHATEVER THE INPUT: true; the input reads as it did. -/
def fnExactWorstHatsSpec : ChangeSpec := { name := "fnExactWorstHats", fn := fun _ => fun
  | [d] => { results := [.lit (.bool true)], args := [d] }
  | _ => none }
def fnExactWorstHatsRow : OpenClaim := { program := "ytenaaellhghfgaadoor", sum := "a8b7efecd7c2defcf1daa76ef736754a12c5c55915369b5279ff3cde152ce079", func := "loop.example/g01315/laws.FnExactWorstHats", spec := "fnExactWorstHats", recurses := true, named := ["internal/strconv.uint64pow10", "math/bits.deBruijn32tab", "math/bits.deBruijn64tab"], plainKeys := false, apart := false, laid := [("math/bits.deBruijn32tab", laid_math_bits_deBruijn32tab), ("math/bits.deBruijn64tab", laid_math_bits_deBruijn64tab), ("internal/strconv.uint64pow10", laid_internal_strconv_uint64pow10)] }
def FnExactWorstHatsSaid : Prop := fnExactWorstHatsRow.holds Tryd.pinned (OpenSpec.ofChange fnExactWorstHatsSpec)

/-- ITS FALSE NEIGHBOUR: 'it returns false'. Refute it at one input. -/
def fnExactWorstHatsWrong : ChangeSpec := { name := "fnExactWorstHats", fn := fun _ => fun
  | [d] => { results := [.lit (.bool false)], args := [d] }
  | _ => none }
def FnExactWorstHatsWrongFalsely : Prop := fnExactWorstHatsRow.holds Tryd.pinned (OpenSpec.ofChange fnExactWorstHatsWrong)

/-- 'laws.FnExactMaskPlan': WHATEVER THE INPUT: true; the input reads as it did. -/
def fnExactMaskPlanSpec : ChangeSpec := { name := "fnExactMaskPlan", fn := fun _ => fun
  | [d1, d2] => { results := [.lit (.bool true)], args := [d1, d2] }
  | _ => none }
def fnExactMaskPlanRow : OpenClaim := { program := "ytenaaellhghfgaadoor", sum := "a8b7efecd7c2defcf1daa76ef736754a12c5c55915369b5279ff3cde152ce079", func := "loop.example/g01315/laws.FnExactMaskPlan", spec := "fnExactMaskPlan", unfollowed := true, recurses := true, named := ["internal/strconv.uint64pow10", "math/bits.deBruijn32tab", "math/bits.deBruijn64tab"], plainKeys := false, apart := false, laid := [("math/bits.deBruijn32tab", laid_math_bits_deBruijn32tab), ("math/bits.deBruijn64tab", laid_math_bits_deBruijn64tab), ("internal/strconv.uint64pow10", laid_internal_strconv_uint64pow10)] }
def FnExactMaskPlanSaid : Prop := fnExactMaskPlanRow.holds Tryd.pinned (OpenSpec.ofChange fnExactMaskPlanSpec)

/-- ITS FALSE NEIGHBOUR: 'it returns false'. Refute it at one input. -/
def fnExactMaskPlanWrong : ChangeSpec := { name := "fnExactMaskPlan", fn := fun _ => fun
  | [d1, d2] => { results := [.lit (.bool false)], args := [d1, d2] }
  | _ => none }
def FnExactMaskPlanWrongFalsely : Prop := fnExactMaskPlanRow.holds Tryd.pinned (OpenSpec.ofChange fnExactMaskPlanWrong)

/- THE SECOND FORM. 'bulk': how many values and letters a reading holds, each counted each time it is reached (what is shared counts as often as it is met; a slice's spare places count too). A statement '..UptoSaid' is the law's where the arguments, and the package variables that the reading takes, are together of bulk at most 1048576: NARROWER than '..Said'. Prove '..Said' where nothing that the law and all that it calls make is longer than what came in: it says more and counts as full. Else prove '..UptoSaid'. A law counts once. -/
mutual
def uptoBulk {H : Type} : DataW H → Nat
  | .lit (.string bytes) => bytes.length + 1
  | .lit _ => 1
  | .nil => 1
  | .ptr d => uptoBulk d + 1
  | .slice elems spare => uptoBulkAll elems + uptoBulkAll spare + 1
  | .agg parts => uptoBulkAll parts + 1
  | .iface _ d => uptoBulk d + 1
  | .map entries => uptoBulkEntries entries + 1
  | .held _ => 1
def uptoBulkAll {H : Type} : List (DataW H) → Nat
  | [] => 0
  | d :: r => uptoBulk d + uptoBulkAll r
def uptoBulkEntries {H : Type} : List (Lit × DataW H) → Nat
  | [] => 0
  | x :: r => uptoBulkEntry x + uptoBulkEntries r
def uptoBulkEntry {H : Type} : Lit × DataW H → Nat
  | (.string bytes, d) => bytes.length + uptoBulk d + 1
  | (_, d) => uptoBulk d + 1
 end
def uptoSmall : (H : Type) → List (DataW H) → Bool := fun _ ds => decide (uptoBulkAll ds ≤ 1048576)
def OpenSpec.upto (s : _root_.Go.ChangeSpec) : _root_.Go.OpenSpec := { _root_.Go.OpenSpec.ofChange s with cond := some uptoSmall }

/-- 'laws.FnExactIsHatPlan', WHERE WHAT IT READS IS OF BULK AT MOST 1048576: true; the input reads as it did. -/
def fnExactIsHatPlanUptoRow : OpenClaim := { program := "ytenaaellhghfgaadoor", sum := "a8b7efecd7c2defcf1daa76ef736754a12c5c55915369b5279ff3cde152ce079", func := "loop.example/g01315/laws.FnExactIsHatPlan", spec := "fnExactIsHatPlan", named := ["internal/strconv.uint64pow10", "math/bits.deBruijn32tab", "math/bits.deBruijn64tab"], plainKeys := false, apart := false, laid := [("math/bits.deBruijn32tab", laid_math_bits_deBruijn32tab), ("math/bits.deBruijn64tab", laid_math_bits_deBruijn64tab), ("internal/strconv.uint64pow10", laid_internal_strconv_uint64pow10)], narrowed := true }
def FnExactIsHatPlanUptoSaid : Prop := fnExactIsHatPlanUptoRow.holds Tryd.pinned (OpenSpec.upto fnExactIsHatPlanSpec)

/-- 'laws.FnExactViewOf', WHERE WHAT IT READS IS OF BULK AT MOST 1048576: true; the input reads as it did. -/
def fnExactViewOfUptoRow : OpenClaim := { program := "ytenaaellhghfgaadoor", sum := "a8b7efecd7c2defcf1daa76ef736754a12c5c55915369b5279ff3cde152ce079", func := "loop.example/g01315/laws.FnExactViewOf", spec := "fnExactViewOf", named := ["internal/strconv.uint64pow10", "math/bits.deBruijn32tab", "math/bits.deBruijn64tab"], plainKeys := false, apart := false, laid := [("math/bits.deBruijn32tab", laid_math_bits_deBruijn32tab), ("math/bits.deBruijn64tab", laid_math_bits_deBruijn64tab), ("internal/strconv.uint64pow10", laid_internal_strconv_uint64pow10)], narrowed := true }
def FnExactViewOfUptoSaid : Prop := fnExactViewOfUptoRow.holds Tryd.pinned (OpenSpec.upto fnExactViewOfSpec)

/-- 'laws.FnExactGuessesOf', WHERE WHAT IT READS IS OF BULK AT MOST 1048576: true; the input reads as it did. -/
def fnExactGuessesOfUptoRow : OpenClaim := { program := "ytenaaellhghfgaadoor", sum := "a8b7efecd7c2defcf1daa76ef736754a12c5c55915369b5279ff3cde152ce079", func := "loop.example/g01315/laws.FnExactGuessesOf", spec := "fnExactGuessesOf", named := ["internal/strconv.uint64pow10", "math/bits.deBruijn32tab", "math/bits.deBruijn64tab"], plainKeys := false, apart := false, laid := [("math/bits.deBruijn32tab", laid_math_bits_deBruijn32tab), ("math/bits.deBruijn64tab", laid_math_bits_deBruijn64tab), ("internal/strconv.uint64pow10", laid_internal_strconv_uint64pow10)], narrowed := true }
def FnExactGuessesOfUptoSaid : Prop := fnExactGuessesOfUptoRow.holds Tryd.pinned (OpenSpec.upto fnExactGuessesOfSpec)

/-- 'laws.FnExactRightGuests', WHERE WHAT IT READS IS OF BULK AT MOST 1048576: true; the input reads as it did. -/
def fnExactRightGuestsUptoRow : OpenClaim := { program := "ytenaaellhghfgaadoor", sum := "a8b7efecd7c2defcf1daa76ef736754a12c5c55915369b5279ff3cde152ce079", func := "loop.example/g01315/laws.FnExactRightGuests", spec := "fnExactRightGuests", named := ["internal/strconv.uint64pow10", "math/bits.deBruijn32tab", "math/bits.deBruijn64tab"], plainKeys := false, apart := false, laid := [("math/bits.deBruijn32tab", laid_math_bits_deBruijn32tab), ("math/bits.deBruijn64tab", laid_math_bits_deBruijn64tab), ("internal/strconv.uint64pow10", laid_internal_strconv_uint64pow10)], narrowed := true }
def FnExactRightGuestsUptoSaid : Prop := fnExactRightGuestsUptoRow.holds Tryd.pinned (OpenSpec.upto fnExactRightGuestsSpec)

/-- 'laws.FnExactLeastRight', WHERE WHAT IT READS IS OF BULK AT MOST 1048576: true; the input reads as it did. -/
def fnExactLeastRightUptoRow : OpenClaim := { program := "ytenaaellhghfgaadoor", sum := "a8b7efecd7c2defcf1daa76ef736754a12c5c55915369b5279ff3cde152ce079", func := "loop.example/g01315/laws.FnExactLeastRight", spec := "fnExactLeastRight", recurses := true, named := ["internal/strconv.uint64pow10", "math/bits.deBruijn32tab", "math/bits.deBruijn64tab"], plainKeys := false, apart := false, laid := [("math/bits.deBruijn32tab", laid_math_bits_deBruijn32tab), ("math/bits.deBruijn64tab", laid_math_bits_deBruijn64tab), ("internal/strconv.uint64pow10", laid_internal_strconv_uint64pow10)], narrowed := true }
def FnExactLeastRightUptoSaid : Prop := fnExactLeastRightUptoRow.holds Tryd.pinned (OpenSpec.upto fnExactLeastRightSpec)

/-- 'laws.FnExactMostRight', WHERE WHAT IT READS IS OF BULK AT MOST 1048576: true; the input reads as it did. -/
def fnExactMostRightUptoRow : OpenClaim := { program := "ytenaaellhghfgaadoor", sum := "a8b7efecd7c2defcf1daa76ef736754a12c5c55915369b5279ff3cde152ce079", func := "loop.example/g01315/laws.FnExactMostRight", spec := "fnExactMostRight", recurses := true, named := ["internal/strconv.uint64pow10", "math/bits.deBruijn32tab", "math/bits.deBruijn64tab"], plainKeys := false, apart := false, laid := [("math/bits.deBruijn32tab", laid_math_bits_deBruijn32tab), ("math/bits.deBruijn64tab", laid_math_bits_deBruijn64tab), ("internal/strconv.uint64pow10", laid_internal_strconv_uint64pow10)], narrowed := true }
def FnExactMostRightUptoSaid : Prop := fnExactMostRightUptoRow.holds Tryd.pinned (OpenSpec.upto fnExactMostRightSpec)

/-- 'laws.FnExactCountByRight', WHERE WHAT IT READS IS OF BULK AT MOST 1048576: true; the input reads as it did. -/
def fnExactCountByRightUptoRow : OpenClaim := { program := "ytenaaellhghfgaadoor", sum := "a8b7efecd7c2defcf1daa76ef736754a12c5c55915369b5279ff3cde152ce079", func := "loop.example/g01315/laws.FnExactCountByRight", spec := "fnExactCountByRight", recurses := true, named := ["internal/strconv.uint64pow10", "math/bits.deBruijn32tab", "math/bits.deBruijn64tab"], plainKeys := false, apart := false, laid := [("math/bits.deBruijn32tab", laid_math_bits_deBruijn32tab), ("math/bits.deBruijn64tab", laid_math_bits_deBruijn64tab), ("internal/strconv.uint64pow10", laid_internal_strconv_uint64pow10)], narrowed := true }
def FnExactCountByRightUptoSaid : Prop := fnExactCountByRightUptoRow.holds Tryd.pinned (OpenSpec.upto fnExactCountByRightSpec)

/-- 'laws.FnExactWorstHats', WHERE WHAT IT READS IS OF BULK AT MOST 1048576: true; the input reads as it did. -/
def fnExactWorstHatsUptoRow : OpenClaim := { program := "ytenaaellhghfgaadoor", sum := "a8b7efecd7c2defcf1daa76ef736754a12c5c55915369b5279ff3cde152ce079", func := "loop.example/g01315/laws.FnExactWorstHats", spec := "fnExactWorstHats", recurses := true, named := ["internal/strconv.uint64pow10", "math/bits.deBruijn32tab", "math/bits.deBruijn64tab"], plainKeys := false, apart := false, laid := [("math/bits.deBruijn32tab", laid_math_bits_deBruijn32tab), ("math/bits.deBruijn64tab", laid_math_bits_deBruijn64tab), ("internal/strconv.uint64pow10", laid_internal_strconv_uint64pow10)], narrowed := true }
def FnExactWorstHatsUptoSaid : Prop := fnExactWorstHatsUptoRow.holds Tryd.pinned (OpenSpec.upto fnExactWorstHatsSpec)

/-- 'laws.FnExactMaskPlan', WHERE WHAT IT READS IS OF BULK AT MOST 1048576: true; the input reads as it did. -/
def fnExactMaskPlanUptoRow : OpenClaim := { program := "ytenaaellhghfgaadoor", sum := "a8b7efecd7c2defcf1daa76ef736754a12c5c55915369b5279ff3cde152ce079", func := "loop.example/g01315/laws.FnExactMaskPlan", spec := "fnExactMaskPlan", unfollowed := true, recurses := true, named := ["internal/strconv.uint64pow10", "math/bits.deBruijn32tab", "math/bits.deBruijn64tab"], plainKeys := false, apart := false, laid := [("math/bits.deBruijn32tab", laid_math_bits_deBruijn32tab), ("math/bits.deBruijn64tab", laid_math_bits_deBruijn64tab), ("internal/strconv.uint64pow10", laid_internal_strconv_uint64pow10)], narrowed := true }
def FnExactMaskPlanUptoSaid : Prop := fnExactMaskPlanUptoRow.holds Tryd.pinned (OpenSpec.upto fnExactMaskPlanSpec)

end Rows
end Go.Proofs.YtenaaellhghfgaaDoor
