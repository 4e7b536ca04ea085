/-
  NARROWER THAN 'FOR EVERY INPUT', by the rows' own cells (each row's printed sentence says how): FnExactIsBoard: laid · FnExactSideOf: laid · FnExactOtherBoard: laid · FnExactTurnedBoard: laid · FnExactForbidPlace: laid · FnExactAllowPlace: laid · FnExactJoinBoards: laid · FnExactForbiddenOf: laid · FnExactHitsOf: laid · FnExactIsAllowed: laid.
  DERIVED. THE GIVEN ROWS OF THIS SEAT. 10 by the template 'for every input the law returns true; each argument reads behind the call as it read before'; 0 by the template 'total and deterministic' (their statements: YtlmoopejihmhbaaDoorTotals.lean).
  GIVEN WITH THE SEED: the statements are not yours to turn. If you find one false, say at which input.
  Laid BY PROGRAM, IN A SANDBOX (cutbox-rows.mjs): the forced cells as the released guide's own fill.sh prints them over the translation 8f2ead2695ece42a… (all of the seat's roots in one cut). By AI agents, Wed Nov 11 2026. No macro, syntax, notation, axiom, sorry.
-/
import Derived.Test.YtlmoopejihmhbaaDoorChecked
import GoSem.PinnedTables
import GoSem.Claim
import GoSem.ClaimJoined
import GoSem.ClaimMapViews
import Derived.JoinedTies
import Derived.KernelRfl
namespace Go.Proofs.YtlmoopejihmhbaaDoor
/- THE CELL 'sum', in the pinned program and in every row, IS THE sha256 OF THE DUMP (.gsa) THAT YtlmoopejihmhbaaDoorProg.lean LOADS. Nothing in Lean hashes anything: it is a label: what it is worth is what the hold of that sum in a sandbox is worth. -/
noncomputable def Tryd.pinned : Pinned := { name := "ytlmoopejihmhbaadoor", sum := "8f2ead2695ece42ac58513931936f78d6b3ac132166cfdb37d5a56631a016478", checked := Tryd.checked }
namespace Rows
def none {H : Type} : Left H := { results := [], args := [] }

/- WHAT THE LISTED PACKAGE-LEVEL VARIABLES READ AS WHEN THE CALL BEGINS. Each datum BY PROGRAM (the guide's laid-datum.mjs) off the statement by which the dump's own 'gosem.cut.vars' lays the variable. In a bare row this is a premise. The card (YtlmoopejihmhbaaDoorCards.lean) ties it to the program's text. -/
def laid_unicode_utf8_acceptRanges {H : Type} : DataW H := .agg [.agg [.lit (.int .u8 128), .lit (.int .u8 191)], .agg [.lit (.int .u8 160), .lit (.int .u8 191)], .agg [.lit (.int .u8 128), .lit (.int .u8 159)], .agg [.lit (.int .u8 144), .lit (.int .u8 191)], .agg [.lit (.int .u8 128), .lit (.int .u8 143)], .agg [.lit (.int .u8 0), .lit (.int .u8 0)], .agg [.lit (.int .u8 0), .lit (.int .u8 0)], .agg [.lit (.int .u8 0), .lit (.int .u8 0)], .agg [.lit (.int .u8 0), .lit (.int .u8 0)], .agg [.lit (.int .u8 0), .lit (.int .u8 0)], .agg [.lit (.int .u8 0), .lit (.int .u8 0)], .agg [.lit (.int .u8 0), .lit (.int .u8 0)], .agg [.lit (.int .u8 0), .lit (.int .u8 0)], .agg [.lit (.int .u8 0), .lit (.int .u8 0)], .agg [.lit (.int .u8 0), .lit (.int .u8 0)], .agg [.lit (.int .u8 0), .lit (.int .u8 0)]]
/-- One of Go's own tables, pinned by name: the form's constant. -/
def laid_unicode_utf8_first : DataW Unit := Go.Pinned.utf8First

/-- 'laws.FnExactIsBoard': WHATEVER THE INPUT: true; the input reads as it did. -/
def fnExactIsBoardSpec : ChangeSpec := { name := "fnExactIsBoard", fn := fun _ => fun
  | [d] => { results := [.lit (.bool true)], args := [d] }
  | _ => none }
def fnExactIsBoardRow : OpenClaim := { program := "ytlmoopejihmhbaadoor", sum := "8f2ead2695ece42ac58513931936f78d6b3ac132166cfdb37d5a56631a016478", func := "loop.example/g01315/laws.FnExactIsBoard", spec := "fnExactIsBoard", inPlace := ["internal/bytealg.CountString", "internal/bytealg.IndexByteString", "internal/bytealg.IndexString"], named := ["unicode/utf8.first", "unicode/utf8.acceptRanges", "internal/bytealg.MaxLen"], plainKeys := false, apart := false, laid := [("unicode/utf8.acceptRanges", laid_unicode_utf8_acceptRanges), ("unicode/utf8.first", laid_unicode_utf8_first)] }
def FnExactIsBoardSaid : Prop := fnExactIsBoardRow.holds Tryd.pinned (OpenSpec.ofChange fnExactIsBoardSpec)

/-- ITS FALSE NEIGHBOUR: 'it returns false'. Refute it at one input. -/
def fnExactIsBoardWrong : ChangeSpec := { name := "fnExactIsBoard", fn := fun _ => fun
  | [d] => { results := [.lit (.bool false)], args := [d] }
  | _ => none }
def FnExactIsBoardWrongFalsely : Prop := fnExactIsBoardRow.holds Tryd.pinned (OpenSpec.ofChange fnExactIsBoardWrong)

/-- 'laws.FnExactSideOf': WHATEVER THE INPUT: true; the input reads as it did. -/
def fnExactSideOfSpec : ChangeSpec := { name := "fnExactSideOf", fn := fun _ => fun
  | [d] => { results := [.lit (.bool true)], args := [d] }
  | _ => none }
def fnExactSideOfRow : OpenClaim := { program := "ytlmoopejihmhbaadoor", sum := "8f2ead2695ece42ac58513931936f78d6b3ac132166cfdb37d5a56631a016478", func := "loop.example/g01315/laws.FnExactSideOf", spec := "fnExactSideOf", inPlace := ["internal/bytealg.CountString", "internal/bytealg.IndexByteString", "internal/bytealg.IndexString"], named := ["unicode/utf8.first", "unicode/utf8.acceptRanges", "internal/bytealg.MaxLen"], plainKeys := false, apart := false, laid := [("unicode/utf8.acceptRanges", laid_unicode_utf8_acceptRanges), ("unicode/utf8.first", laid_unicode_utf8_first)] }
def FnExactSideOfSaid : Prop := fnExactSideOfRow.holds Tryd.pinned (OpenSpec.ofChange fnExactSideOfSpec)

/-- ITS FALSE NEIGHBOUR: 'it returns false'. Refute it at one input. -/
def fnExactSideOfWrong : ChangeSpec := { name := "fnExactSideOf", fn := fun _ => fun
  | [d] => { results := [.lit (.bool false)], args := [d] }
  | _ => none }
def FnExactSideOfWrongFalsely : Prop := fnExactSideOfRow.holds Tryd.pinned (OpenSpec.ofChange fnExactSideOfWrong)

/-- 'laws.FnExactOtherBoard': WHATEVER THE INPUT: true; the input reads as it did. -/
def fnExactOtherBoardSpec : ChangeSpec := { name := "fnExactOtherBoard", fn := fun _ => fun
  | [d] => { results := [.lit (.bool true)], args := [d] }
  | _ => none }
def fnExactOtherBoardRow : OpenClaim := { program := "ytlmoopejihmhbaadoor", sum := "8f2ead2695ece42ac58513931936f78d6b3ac132166cfdb37d5a56631a016478", func := "loop.example/g01315/laws.FnExactOtherBoard", spec := "fnExactOtherBoard", inPlace := ["internal/bytealg.CountString", "internal/bytealg.IndexByteString", "internal/bytealg.IndexString"], unfollowed := true, recurses := true, named := ["unicode/utf8.first", "unicode/utf8.acceptRanges", "internal/bytealg.MaxLen"], plainKeys := false, apart := false, laid := [("unicode/utf8.acceptRanges", laid_unicode_utf8_acceptRanges), ("unicode/utf8.first", laid_unicode_utf8_first)] }
def FnExactOtherBoardSaid : Prop := fnExactOtherBoardRow.holds Tryd.pinned (OpenSpec.ofChange fnExactOtherBoardSpec)

/-- ITS FALSE NEIGHBOUR: 'it returns false'. Refute it at one input. -/
def fnExactOtherBoardWrong : ChangeSpec := { name := "fnExactOtherBoard", fn := fun _ => fun
  | [d] => { results := [.lit (.bool false)], args := [d] }
  | _ => none }
def FnExactOtherBoardWrongFalsely : Prop := fnExactOtherBoardRow.holds Tryd.pinned (OpenSpec.ofChange fnExactOtherBoardWrong)

/-- 'laws.FnExactTurnedBoard': WHATEVER THE INPUT: true; the input reads as it did. -/
def fnExactTurnedBoardSpec : ChangeSpec := { name := "fnExactTurnedBoard", fn := fun _ => fun
  | [d] => { results := [.lit (.bool true)], args := [d] }
  | _ => none }
def fnExactTurnedBoardRow : OpenClaim := { program := "ytlmoopejihmhbaadoor", sum := "8f2ead2695ece42ac58513931936f78d6b3ac132166cfdb37d5a56631a016478", func := "loop.example/g01315/laws.FnExactTurnedBoard", spec := "fnExactTurnedBoard", inPlace := ["internal/bytealg.CountString", "internal/bytealg.IndexByteString", "internal/bytealg.IndexString"], unfollowed := true, recurses := true, named := ["unicode/utf8.first", "unicode/utf8.acceptRanges", "internal/bytealg.MaxLen"], plainKeys := false, apart := false, laid := [("unicode/utf8.acceptRanges", laid_unicode_utf8_acceptRanges), ("unicode/utf8.first", laid_unicode_utf8_first)] }
def FnExactTurnedBoardSaid : Prop := fnExactTurnedBoardRow.holds Tryd.pinned (OpenSpec.ofChange fnExactTurnedBoardSpec)

/-- ITS FALSE NEIGHBOUR: 'it returns false'. Refute it at one input. -/
def fnExactTurnedBoardWrong : ChangeSpec := { name := "fnExactTurnedBoard", fn := fun _ => fun
  | [d] => { results := [.lit (.bool false)], args := [d] }
  | _ => none }
def FnExactTurnedBoardWrongFalsely : Prop := fnExactTurnedBoardRow.holds Tryd.pinned (OpenSpec.ofChange fnExactTurnedBoardWrong)

/-- 'laws.FnExactForbidPlace': WHATEVER THE INPUT: true; the input reads as it did. -/
def fnExactForbidPlaceSpec : ChangeSpec := { name := "fnExactForbidPlace", fn := fun _ => fun
  | [d1, d2, d3] => { results := [.lit (.bool true)], args := [d1, d2, d3] }
  | _ => none }
def fnExactForbidPlaceRow : OpenClaim := { program := "ytlmoopejihmhbaadoor", sum := "8f2ead2695ece42ac58513931936f78d6b3ac132166cfdb37d5a56631a016478", func := "loop.example/g01315/laws.FnExactForbidPlace", spec := "fnExactForbidPlace", inPlace := ["internal/bytealg.CountString", "internal/bytealg.IndexByteString", "internal/bytealg.IndexString"], unfollowed := true, recurses := true, named := ["unicode/utf8.first", "unicode/utf8.acceptRanges", "internal/bytealg.MaxLen"], plainKeys := false, apart := false, laid := [("unicode/utf8.acceptRanges", laid_unicode_utf8_acceptRanges), ("unicode/utf8.first", laid_unicode_utf8_first)] }
def FnExactForbidPlaceSaid : Prop := fnExactForbidPlaceRow.holds Tryd.pinned (OpenSpec.ofChange fnExactForbidPlaceSpec)

/-- ITS FALSE NEIGHBOUR: 'it returns false'. Refute it at one input. -/
def fnExactForbidPlaceWrong : ChangeSpec := { name := "fnExactForbidPlace", fn := fun _ => fun
  | [d1, d2, d3] => { results := [.lit (.bool false)], args := [d1, d2, d3] }
  | _ => none }
def FnExactForbidPlaceWrongFalsely : Prop := fnExactForbidPlaceRow.holds Tryd.pinned (OpenSpec.ofChange fnExactForbidPlaceWrong)

/-- 'laws.FnExactAllowPlace': WHATEVER THE INPUT: true; the input reads as it did. -/
def fnExactAllowPlaceSpec : ChangeSpec := { name := "fnExactAllowPlace", fn := fun _ => fun
  | [d1, d2, d3] => { results := [.lit (.bool true)], args := [d1, d2, d3] }
  | _ => none }
def fnExactAllowPlaceRow : OpenClaim := { program := "ytlmoopejihmhbaadoor", sum := "8f2ead2695ece42ac58513931936f78d6b3ac132166cfdb37d5a56631a016478", func := "loop.example/g01315/laws.FnExactAllowPlace", spec := "fnExactAllowPlace", inPlace := ["internal/bytealg.CountString", "internal/bytealg.IndexByteString", "internal/bytealg.IndexString"], unfollowed := true, recurses := true, named := ["unicode/utf8.first", "unicode/utf8.acceptRanges", "internal/bytealg.MaxLen"], plainKeys := false, apart := false, laid := [("unicode/utf8.acceptRanges", laid_unicode_utf8_acceptRanges), ("unicode/utf8.first", laid_unicode_utf8_first)] }
def FnExactAllowPlaceSaid : Prop := fnExactAllowPlaceRow.holds Tryd.pinned (OpenSpec.ofChange fnExactAllowPlaceSpec)

/-- ITS FALSE NEIGHBOUR: 'it returns false'. Refute it at one input. -/
def fnExactAllowPlaceWrong : ChangeSpec := { name := "fnExactAllowPlace", fn := fun _ => fun
  | [d1, d2, d3] => { results := [.lit (.bool false)], args := [d1, d2, d3] }
  | _ => none }
def FnExactAllowPlaceWrongFalsely : Prop := fnExactAllowPlaceRow.holds Tryd.pinned (OpenSpec.ofChange fnExactAllowPlaceWrong)

/-- 'laws.FnExactJoinBoards': WHATEVER THE INPUT: true; the input reads as it did. -/
def fnExactJoinBoardsSpec : ChangeSpec := { name := "fnExactJoinBoards", fn := fun _ => fun
  | [d1, d2] => { results := [.lit (.bool true)], args := [d1, d2] }
  | _ => none }
def fnExactJoinBoardsRow : OpenClaim := { program := "ytlmoopejihmhbaadoor", sum := "8f2ead2695ece42ac58513931936f78d6b3ac132166cfdb37d5a56631a016478", func := "loop.example/g01315/laws.FnExactJoinBoards", spec := "fnExactJoinBoards", inPlace := ["internal/bytealg.CountString", "internal/bytealg.IndexByteString", "internal/bytealg.IndexString"], unfollowed := true, recurses := true, named := ["unicode/utf8.first", "unicode/utf8.acceptRanges", "internal/bytealg.MaxLen"], plainKeys := false, apart := false, laid := [("unicode/utf8.acceptRanges", laid_unicode_utf8_acceptRanges), ("unicode/utf8.first", laid_unicode_utf8_first)] }
def FnExactJoinBoardsSaid : Prop := fnExactJoinBoardsRow.holds Tryd.pinned (OpenSpec.ofChange fnExactJoinBoardsSpec)

/-- ITS FALSE NEIGHBOUR: 'it returns false'. Refute it at one input. -/
def fnExactJoinBoardsWrong : ChangeSpec := { name := "fnExactJoinBoards", fn := fun _ => fun
  | [d1, d2] => { results := [.lit (.bool false)], args := [d1, d2] }
  | _ => none }
def FnExactJoinBoardsWrongFalsely : Prop := fnExactJoinBoardsRow.holds Tryd.pinned (OpenSpec.ofChange fnExactJoinBoardsWrong)

/-- 'laws.FnExactForbiddenOf': WHATEVER THE INPUT: true; the input reads as it did. -/
def fnExactForbiddenOfSpec : ChangeSpec := { name := "fnExactForbiddenOf", fn := fun _ => fun
  | [d] => { results := [.lit (.bool true)], args := [d] }
  | _ => none }
def fnExactForbiddenOfRow : OpenClaim := { program := "ytlmoopejihmhbaadoor", sum := "8f2ead2695ece42ac58513931936f78d6b3ac132166cfdb37d5a56631a016478", func := "loop.example/g01315/laws.FnExactForbiddenOf", spec := "fnExactForbiddenOf", inPlace := ["internal/bytealg.CountString", "internal/bytealg.IndexByteString", "internal/bytealg.IndexString"], named := ["unicode/utf8.first", "unicode/utf8.acceptRanges", "internal/bytealg.MaxLen"], plainKeys := false, apart := false, laid := [("unicode/utf8.acceptRanges", laid_unicode_utf8_acceptRanges), ("unicode/utf8.first", laid_unicode_utf8_first)] }
def FnExactForbiddenOfSaid : Prop := fnExactForbiddenOfRow.holds Tryd.pinned (OpenSpec.ofChange fnExactForbiddenOfSpec)

/-- ITS FALSE NEIGHBOUR: 'it returns false'. Refute it at one input. -/
def fnExactForbiddenOfWrong : ChangeSpec := { name := "fnExactForbiddenOf", fn := fun _ => fun
  | [d] => { results := [.lit (.bool false)], args := [d] }
  | _ => none }
def FnExactForbiddenOfWrongFalsely : Prop := fnExactForbiddenOfRow.holds Tryd.pinned (OpenSpec.ofChange fnExactForbiddenOfWrong)

/-- 'laws.FnExactHitsOf': WHATEVER THE INPUT: true; the input reads as it did. -/
def fnExactHitsOfSpec : ChangeSpec := { name := "fnExactHitsOf", fn := fun _ => fun
  | [d1, d2] => { results := [.lit (.bool true)], args := [d1, d2] }
  | _ => none }
def fnExactHitsOfRow : OpenClaim := { program := "ytlmoopejihmhbaadoor", sum := "8f2ead2695ece42ac58513931936f78d6b3ac132166cfdb37d5a56631a016478", func := "loop.example/g01315/laws.FnExactHitsOf", spec := "fnExactHitsOf", inPlace := ["internal/bytealg.CountString", "internal/bytealg.IndexByteString", "internal/bytealg.IndexString"], named := ["unicode/utf8.first", "unicode/utf8.acceptRanges", "internal/bytealg.MaxLen"], plainKeys := false, apart := false, laid := [("unicode/utf8.acceptRanges", laid_unicode_utf8_acceptRanges), ("unicode/utf8.first", laid_unicode_utf8_first)] }
def FnExactHitsOfSaid : Prop := fnExactHitsOfRow.holds Tryd.pinned (OpenSpec.ofChange fnExactHitsOfSpec)

/-- ITS FALSE NEIGHBOUR: 'it returns false'. Refute it at one input. -/
def fnExactHitsOfWrong : ChangeSpec := { name := "fnExactHitsOf", fn := fun _ => fun
  | [d1, d2] => { results := [.lit (.bool false)], args := [d1, d2] }
  | _ => none }
def FnExactHitsOfWrongFalsely : Prop := fnExactHitsOfRow.holds Tryd.pinned (OpenSpec.ofChange fnExactHitsOfWrong)

/-- 'laws.FnExactIsAllowed': WHATEVER THE INPUT: true; the input reads as it did. -/
def fnExactIsAllowedSpec : ChangeSpec := { name := "fnExactIsAllowed", fn := fun _ => fun
  | [d1, d2] => { results := [.lit (.bool true)], args := [d1, d2] }
  | _ => none }
def fnExactIsAllowedRow : OpenClaim := { program := "ytlmoopejihmhbaadoor", sum := "8f2ead2695ece42ac58513931936f78d6b3ac132166cfdb37d5a56631a016478", func := "loop.example/g01315/laws.FnExactIsAllowed", spec := "fnExactIsAllowed", inPlace := ["internal/bytealg.CountString", "internal/bytealg.IndexByteString", "internal/bytealg.IndexString"], named := ["unicode/utf8.first", "unicode/utf8.acceptRanges", "internal/bytealg.MaxLen"], plainKeys := false, apart := false, laid := [("unicode/utf8.acceptRanges", laid_unicode_utf8_acceptRanges), ("unicode/utf8.first", laid_unicode_utf8_first)] }
def FnExactIsAllowedSaid : Prop := fnExactIsAllowedRow.holds Tryd.pinned (OpenSpec.ofChange fnExactIsAllowedSpec)

/-- ITS FALSE NEIGHBOUR: 'it returns false'. Refute it at one input. -/
def fnExactIsAllowedWrong : ChangeSpec := { name := "fnExactIsAllowed", fn := fun _ => fun
  | [d1, d2] => { results := [.lit (.bool false)], args := [d1, d2] }
  | _ => none }
def FnExactIsAllowedWrongFalsely : Prop := fnExactIsAllowedRow.holds Tryd.pinned (OpenSpec.ofChange fnExactIsAllowedWrong)

/- THE SECOND FORM. 'bulk': how many values and letters a reading holds, each counted each time it is reached (what is shared counts as often as it is met; a slice's spare places count too). A statement '..UptoSaid' is the law's where the arguments, and the package variables that the reading takes, are together of bulk at most 1048576: NARROWER than '..Said'. Prove '..Said' where nothing that the law and all that it calls make is longer than what came in: it says more and counts as full. Else prove '..UptoSaid'. A law counts once. -/
mutual
def uptoBulk {H : Type} : DataW H → Nat
  | .lit (.string bytes) => bytes.length + 1
  | .lit _ => 1
  | .nil => 1
  | .ptr d => uptoBulk d + 1
  | .slice elems spare => uptoBulkAll elems + uptoBulkAll spare + 1
  | .agg parts => uptoBulkAll parts + 1
  | .iface _ d => uptoBulk d + 1
  | .map entries => uptoBulkEntries entries + 1
  | .held _ => 1
def uptoBulkAll {H : Type} : List (DataW H) → Nat
  | [] => 0
  | d :: r => uptoBulk d + uptoBulkAll r
def uptoBulkEntries {H : Type} : List (Lit × DataW H) → Nat
  | [] => 0
  | x :: r => uptoBulkEntry x + uptoBulkEntries r
def uptoBulkEntry {H : Type} : Lit × DataW H → Nat
  | (.string bytes, d) => bytes.length + uptoBulk d + 1
  | (_, d) => uptoBulk d + 1
 end
def uptoSmall : (H : Type) → List (DataW H) → Bool := fun _ ds => decide (uptoBulkAll ds ≤ 1048576)
def OpenSpec.upto (s : _root_.Go.ChangeSpec) : _root_.Go.OpenSpec := { _root_.Go.OpenSpec.ofChange s with cond := some uptoSmall }

/-- 'laws.FnExactIsBoard', WHERE WHAT IT READS IS OF BULK AT MOST 1048576: true; the input reads as it did. -/
def fnExactIsBoardUptoRow : OpenClaim := { program := "ytlmoopejihmhbaadoor", sum := "8f2ead2695ece42ac58513931936f78d6b3ac132166cfdb37d5a56631a016478", func := "loop.example/g01315/laws.FnExactIsBoard", spec := "fnExactIsBoard", inPlace := ["internal/bytealg.CountString", "internal/bytealg.IndexByteString", "internal/bytealg.IndexString"], named := ["unicode/utf8.first", "unicode/utf8.acceptRanges", "internal/bytealg.MaxLen"], plainKeys := false, apart := false, laid := [("unicode/utf8.acceptRanges", laid_unicode_utf8_acceptRanges), ("unicode/utf8.first", laid_unicode_utf8_first)], narrowed := true }
def FnExactIsBoardUptoSaid : Prop := fnExactIsBoardUptoRow.holds Tryd.pinned (OpenSpec.upto fnExactIsBoardSpec)

/-- 'laws.FnExactSideOf', WHERE WHAT IT READS IS OF BULK AT MOST 1048576: true; the input reads as it did. -/
def fnExactSideOfUptoRow : OpenClaim := { program := "ytlmoopejihmhbaadoor", sum := "8f2ead2695ece42ac58513931936f78d6b3ac132166cfdb37d5a56631a016478", func := "loop.example/g01315/laws.FnExactSideOf", spec := "fnExactSideOf", inPlace := ["internal/bytealg.CountString", "internal/bytealg.IndexByteString", "internal/bytealg.IndexString"], named := ["unicode/utf8.first", "unicode/utf8.acceptRanges", "internal/bytealg.MaxLen"], plainKeys := false, apart := false, laid := [("unicode/utf8.acceptRanges", laid_unicode_utf8_acceptRanges), ("unicode/utf8.first", laid_unicode_utf8_first)], narrowed := true }
def FnExactSideOfUptoSaid : Prop := fnExactSideOfUptoRow.holds Tryd.pinned (OpenSpec.upto fnExactSideOfSpec)

/-- 'laws.FnExactOtherBoard', WHERE WHAT IT READS IS OF BULK AT MOST 1048576: true; the input reads as it did. -/
def fnExactOtherBoardUptoRow : OpenClaim := { program := "ytlmoopejihmhbaadoor", sum := "8f2ead2695ece42ac58513931936f78d6b3ac132166cfdb37d5a56631a016478", func := "loop.example/g01315/laws.FnExactOtherBoard", spec := "fnExactOtherBoard", inPlace := ["internal/bytealg.CountString", "internal/bytealg.IndexByteString", "internal/bytealg.IndexString"], unfollowed := true, recurses := true, named := ["unicode/utf8.first", "unicode/utf8.acceptRanges", "internal/bytealg.MaxLen"], plainKeys := false, apart := false, laid := [("unicode/utf8.acceptRanges", laid_unicode_utf8_acceptRanges), ("unicode/utf8.first", laid_unicode_utf8_first)], narrowed := true }
def FnExactOtherBoardUptoSaid : Prop := fnExactOtherBoardUptoRow.holds Tryd.pinned (OpenSpec.upto fnExactOtherBoardSpec)

/-- 'laws.FnExactTurnedBoard', WHERE WHAT IT READS IS OF BULK AT MOST 1048576: true; the input reads as it did. -/
def fnExactTurnedBoardUptoRow : OpenClaim := { program := "ytlmoopejihmhbaadoor", sum := "8f2ead2695ece42ac58513931936f78d6b3ac132166cfdb37d5a56631a016478", func := "loop.example/g01315/laws.FnExactTurnedBoard", spec := "fnExactTurnedBoard", inPlace := ["internal/bytealg.CountString", "internal/bytealg.IndexByteString", "internal/bytealg.IndexString"], unfollowed := true, recurses := true, named := ["unicode/utf8.first", "unicode/utf8.acceptRanges", "internal/bytealg.MaxLen"], plainKeys := false, apart := false, laid := [("unicode/utf8.acceptRanges", laid_unicode_utf8_acceptRanges), ("unicode/utf8.first", laid_unicode_utf8_first)], narrowed := true }
def FnExactTurnedBoardUptoSaid : Prop := fnExactTurnedBoardUptoRow.holds Tryd.pinned (OpenSpec.upto fnExactTurnedBoardSpec)

/-- 'laws.FnExactForbidPlace', WHERE WHAT IT READS IS OF BULK AT MOST 1048576: true; the input reads as it did. -/
def fnExactForbidPlaceUptoRow : OpenClaim := { program := "ytlmoopejihmhbaadoor", sum := "8f2ead2695ece42ac58513931936f78d6b3ac132166cfdb37d5a56631a016478", func := "loop.example/g01315/laws.FnExactForbidPlace", spec := "fnExactForbidPlace", inPlace := ["internal/bytealg.CountString", "internal/bytealg.IndexByteString", "internal/bytealg.IndexString"], unfollowed := true, recurses := true, named := ["unicode/utf8.first", "unicode/utf8.acceptRanges", "internal/bytealg.MaxLen"], plainKeys := false, apart := false, laid := [("unicode/utf8.acceptRanges", laid_unicode_utf8_acceptRanges), ("unicode/utf8.first", laid_unicode_utf8_first)], narrowed := true }
def FnExactForbidPlaceUptoSaid : Prop := fnExactForbidPlaceUptoRow.holds Tryd.pinned (OpenSpec.upto fnExactForbidPlaceSpec)

/-- 'laws.FnExactAllowPlace', WHERE WHAT IT READS IS OF BULK AT MOST 1048576: true; the input reads as it did. -/
def fnExactAllowPlaceUptoRow : OpenClaim := { program := "ytlmoopejihmhbaadoor", sum := "8f2ead2695ece42ac58513931936f78d6b3ac132166cfdb37d5a56631a016478", func := "loop.example/g01315/laws.FnExactAllowPlace", spec := "fnExactAllowPlace", inPlace := ["internal/bytealg.CountString", "internal/bytealg.IndexByteString", "internal/bytealg.IndexString"], unfollowed := true, recurses := true, named := ["unicode/utf8.first", "unicode/utf8.acceptRanges", "internal/bytealg.MaxLen"], plainKeys := false, apart := false, laid := [("unicode/utf8.acceptRanges", laid_unicode_utf8_acceptRanges), ("unicode/utf8.first", laid_unicode_utf8_first)], narrowed := true }
def FnExactAllowPlaceUptoSaid : Prop := fnExactAllowPlaceUptoRow.holds Tryd.pinned (OpenSpec.upto fnExactAllowPlaceSpec)

/-- 'laws.FnExactJoinBoards', WHERE WHAT IT READS IS OF BULK AT MOST 1048576: true; the input reads as it did. -/
def fnExactJoinBoardsUptoRow : OpenClaim := { program := "ytlmoopejihmhbaadoor", sum := "8f2ead2695ece42ac58513931936f78d6b3ac132166cfdb37d5a56631a016478", func := "loop.example/g01315/laws.FnExactJoinBoards", spec := "fnExactJoinBoards", inPlace := ["internal/bytealg.CountString", "internal/bytealg.IndexByteString", "internal/bytealg.IndexString"], unfollowed := true, recurses := true, named := ["unicode/utf8.first", "unicode/utf8.acceptRanges", "internal/bytealg.MaxLen"], plainKeys := false, apart := false, laid := [("unicode/utf8.acceptRanges", laid_unicode_utf8_acceptRanges), ("unicode/utf8.first", laid_unicode_utf8_first)], narrowed := true }
def FnExactJoinBoardsUptoSaid : Prop := fnExactJoinBoardsUptoRow.holds Tryd.pinned (OpenSpec.upto fnExactJoinBoardsSpec)

/-- 'laws.FnExactForbiddenOf', WHERE WHAT IT READS IS OF BULK AT MOST 1048576: true; the input reads as it did. -/
def fnExactForbiddenOfUptoRow : OpenClaim := { program := "ytlmoopejihmhbaadoor", sum := "8f2ead2695ece42ac58513931936f78d6b3ac132166cfdb37d5a56631a016478", func := "loop.example/g01315/laws.FnExactForbiddenOf", spec := "fnExactForbiddenOf", inPlace := ["internal/bytealg.CountString", "internal/bytealg.IndexByteString", "internal/bytealg.IndexString"], named := ["unicode/utf8.first", "unicode/utf8.acceptRanges", "internal/bytealg.MaxLen"], plainKeys := false, apart := false, laid := [("unicode/utf8.acceptRanges", laid_unicode_utf8_acceptRanges), ("unicode/utf8.first", laid_unicode_utf8_first)], narrowed := true }
def FnExactForbiddenOfUptoSaid : Prop := fnExactForbiddenOfUptoRow.holds Tryd.pinned (OpenSpec.upto fnExactForbiddenOfSpec)

/-- 'laws.FnExactHitsOf', WHERE WHAT IT READS IS OF BULK AT MOST 1048576: true; the input reads as it did. -/
def fnExactHitsOfUptoRow : OpenClaim := { program := "ytlmoopejihmhbaadoor", sum := "8f2ead2695ece42ac58513931936f78d6b3ac132166cfdb37d5a56631a016478", func := "loop.example/g01315/laws.FnExactHitsOf", spec := "fnExactHitsOf", inPlace := ["internal/bytealg.CountString", "internal/bytealg.IndexByteString", "internal/bytealg.IndexString"], named := ["unicode/utf8.first", "unicode/utf8.acceptRanges", "internal/bytealg.MaxLen"], plainKeys := false, apart := false, laid := [("unicode/utf8.acceptRanges", laid_unicode_utf8_acceptRanges), ("unicode/utf8.first", laid_unicode_utf8_first)], narrowed := true }
def FnExactHitsOfUptoSaid : Prop := fnExactHitsOfUptoRow.holds Tryd.pinned (OpenSpec.upto fnExactHitsOfSpec)

/-- 'laws.FnExactIsAllowed', WHERE WHAT IT READS IS OF BULK AT MOST 1048576: true; the input reads as it did. -/
def fnExactIsAllowedUptoRow : OpenClaim := { program := "ytlmoopejihmhbaadoor", sum := "8f2ead2695ece42ac58513931936f78d6b3ac132166cfdb37d5a56631a016478", func := "loop.example/g01315/laws.FnExactIsAllowed", spec := "fnExactIsAllowed", inPlace := ["internal/bytealg.CountString", "internal/bytealg.IndexByteString", "internal/bytealg.IndexString"], named := ["unicode/utf8.first", "unicode/utf8.acceptRanges", "internal/bytealg.MaxLen"], plainKeys := false, apart := false, laid := [("unicode/utf8.acceptRanges", laid_unicode_utf8_acceptRanges), ("unicode/utf8.first", laid_unicode_utf8_first)], narrowed := true }
def FnExactIsAllowedUptoSaid : Prop := fnExactIsAllowedUptoRow.holds Tryd.pinned (OpenSpec.upto fnExactIsAllowedSpec)

end Rows
end Go.Proofs.YtlmoopejihmhbaaDoor
