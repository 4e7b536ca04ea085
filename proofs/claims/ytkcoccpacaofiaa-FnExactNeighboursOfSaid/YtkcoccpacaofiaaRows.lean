/-
  No cell of these rows narrows 'for every input' (looked for: loops, veiled, ifaces, maps, wideKeys, modest, calm, conditions, laid).
  DERIVED. THE GIVEN ROWS OF THIS SEAT. 7 by the template 'for every input the law returns true; each argument reads behind the call as it read before'; 0 by the template 'total and deterministic' (their statements: YtkcoccpacaofiaaTotals.lean).
  GIVEN WITH THE SEED: the statements are not yours to turn. If you find one false, say at which input.
  Laid BY PROGRAM, IN A SANDBOX (cutbox-rows.mjs): the forced cells as the released guide's own fill.sh prints them over the translation dadee0c9c1379924… (all of the seat's roots in one cut). By AI agents, Wed Nov 11 2026. No macro, syntax, notation, axiom, sorry.
-/
import Derived.Test.YtkcoccpacaofiaaChecked
import GoSem.Claim
import GoSem.ClaimJoined
import GoSem.ClaimMapViews
import Derived.JoinedTies
import Derived.KernelRfl
namespace Go.Proofs.Ytkcoccpacaofiaa
/- THE CELL 'sum', in the pinned program and in every row, IS THE sha256 OF THE DUMP (.gsa) THAT YtkcoccpacaofiaaProg.lean LOADS. Nothing in Lean hashes anything: it is a label: what it is worth is what the hold of that sum in a sandbox is worth. -/
noncomputable def Try.pinned : Pinned := { name := "ytkcoccpacaofiaa", sum := "dadee0c9c1379924d70583a254266f30f17f4b54d2841578edc5cb44421fd67d", checked := Try.checked }
namespace Rows
def none {H : Type} : Left H := { results := [], args := [] }

/-- 'laws.FnExactCouplesTogether': WHATEVER THE INPUT: true; the input reads as it did. -/
def fnExactCouplesTogetherSpec : ChangeSpec := { name := "fnExactCouplesTogether", fn := fun _ => fun
  | [d] => { results := [.lit (.bool true)], args := [d] }
  | _ => none }
def fnExactCouplesTogetherRow : OpenClaim := { program := "ytkcoccpacaofiaa", sum := "dadee0c9c1379924d70583a254266f30f17f4b54d2841578edc5cb44421fd67d", func := "loop.example/g01315/laws.FnExactCouplesTogether", spec := "fnExactCouplesTogether", apart := false }
def FnExactCouplesTogetherSaid : Prop := fnExactCouplesTogetherRow.holds Try.pinned (OpenSpec.ofChange fnExactCouplesTogetherSpec)

/-- ITS FALSE NEIGHBOUR: 'it returns false'. Refute it at one input. -/
def fnExactCouplesTogetherWrong : ChangeSpec := { name := "fnExactCouplesTogether", fn := fun _ => fun
  | [d] => { results := [.lit (.bool false)], args := [d] }
  | _ => none }
def FnExactCouplesTogetherWrongFalsely : Prop := fnExactCouplesTogetherRow.holds Try.pinned (OpenSpec.ofChange fnExactCouplesTogetherWrong)

/-- 'laws.FnExactCouplesInRow': WHATEVER THE INPUT: true; the input reads as it did. -/
def fnExactCouplesInRowSpec : ChangeSpec := { name := "fnExactCouplesInRow", fn := fun _ => fun
  | [d] => { results := [.lit (.bool true)], args := [d] }
  | _ => none }
def fnExactCouplesInRowRow : OpenClaim := { program := "ytkcoccpacaofiaa", sum := "dadee0c9c1379924d70583a254266f30f17f4b54d2841578edc5cb44421fd67d", func := "loop.example/g01315/laws.FnExactCouplesInRow", spec := "fnExactCouplesInRow", apart := false }
def FnExactCouplesInRowSaid : Prop := fnExactCouplesInRowRow.holds Try.pinned (OpenSpec.ofChange fnExactCouplesInRowSpec)

/-- ITS FALSE NEIGHBOUR: 'it returns false'. Refute it at one input. -/
def fnExactCouplesInRowWrong : ChangeSpec := { name := "fnExactCouplesInRow", fn := fun _ => fun
  | [d] => { results := [.lit (.bool false)], args := [d] }
  | _ => none }
def FnExactCouplesInRowWrongFalsely : Prop := fnExactCouplesInRowRow.holds Try.pinned (OpenSpec.ofChange fnExactCouplesInRowWrong)

/-- 'laws.FnExactIsInTurn': WHATEVER THE INPUT: true; the input reads as it did. -/
def fnExactIsInTurnSpec : ChangeSpec := { name := "fnExactIsInTurn", fn := fun _ => fun
  | [d] => { results := [.lit (.bool true)], args := [d] }
  | _ => none }
def fnExactIsInTurnRow : OpenClaim := { program := "ytkcoccpacaofiaa", sum := "dadee0c9c1379924d70583a254266f30f17f4b54d2841578edc5cb44421fd67d", func := "loop.example/g01315/laws.FnExactIsInTurn", spec := "fnExactIsInTurn", apart := false }
def FnExactIsInTurnSaid : Prop := fnExactIsInTurnRow.holds Try.pinned (OpenSpec.ofChange fnExactIsInTurnSpec)

/-- ITS FALSE NEIGHBOUR: 'it returns false'. Refute it at one input. -/
def fnExactIsInTurnWrong : ChangeSpec := { name := "fnExactIsInTurn", fn := fun _ => fun
  | [d] => { results := [.lit (.bool false)], args := [d] }
  | _ => none }
def FnExactIsInTurnWrongFalsely : Prop := fnExactIsInTurnRow.holds Try.pinned (OpenSpec.ofChange fnExactIsInTurnWrong)

/-- 'laws.FnExactTurnTable': WHATEVER THE INPUT: true; the input reads as it did. -/
def fnExactTurnTableSpec : ChangeSpec := { name := "fnExactTurnTable", fn := fun _ => fun
  | [d1, d2] => { results := [.lit (.bool true)], args := [d1, d2] }
  | _ => none }
def fnExactTurnTableRow : OpenClaim := { program := "ytkcoccpacaofiaa", sum := "dadee0c9c1379924d70583a254266f30f17f4b54d2841578edc5cb44421fd67d", func := "loop.example/g01315/laws.FnExactTurnTable", spec := "fnExactTurnTable", apart := false }
def FnExactTurnTableSaid : Prop := fnExactTurnTableRow.holds Try.pinned (OpenSpec.ofChange fnExactTurnTableSpec)

/-- ITS FALSE NEIGHBOUR: 'it returns false'. Refute it at one input. -/
def fnExactTurnTableWrong : ChangeSpec := { name := "fnExactTurnTable", fn := fun _ => fun
  | [d1, d2] => { results := [.lit (.bool false)], args := [d1, d2] }
  | _ => none }
def FnExactTurnTableWrongFalsely : Prop := fnExactTurnTableRow.holds Try.pinned (OpenSpec.ofChange fnExactTurnTableWrong)

/-- 'laws.FnExactMirrorTable': WHATEVER THE INPUT: true; the input reads as it did. -/
def fnExactMirrorTableSpec : ChangeSpec := { name := "fnExactMirrorTable", fn := fun _ => fun
  | [d] => { results := [.lit (.bool true)], args := [d] }
  | _ => none }
def fnExactMirrorTableRow : OpenClaim := { program := "ytkcoccpacaofiaa", sum := "dadee0c9c1379924d70583a254266f30f17f4b54d2841578edc5cb44421fd67d", func := "loop.example/g01315/laws.FnExactMirrorTable", spec := "fnExactMirrorTable", apart := false }
def FnExactMirrorTableSaid : Prop := fnExactMirrorTableRow.holds Try.pinned (OpenSpec.ofChange fnExactMirrorTableSpec)

/-- ITS FALSE NEIGHBOUR: 'it returns false'. Refute it at one input. -/
def fnExactMirrorTableWrong : ChangeSpec := { name := "fnExactMirrorTable", fn := fun _ => fun
  | [d] => { results := [.lit (.bool false)], args := [d] }
  | _ => none }
def FnExactMirrorTableWrongFalsely : Prop := fnExactMirrorTableRow.holds Try.pinned (OpenSpec.ofChange fnExactMirrorTableWrong)

/-- 'laws.FnExactNeighboursOf': WHATEVER THE INPUT: true; the input reads as it did. -/
def fnExactNeighboursOfSpec : ChangeSpec := { name := "fnExactNeighboursOf", fn := fun _ => fun
  | [d1, d2] => { results := [.lit (.bool true)], args := [d1, d2] }
  | _ => none }
def fnExactNeighboursOfRow : OpenClaim := { program := "ytkcoccpacaofiaa", sum := "dadee0c9c1379924d70583a254266f30f17f4b54d2841578edc5cb44421fd67d", func := "loop.example/g01315/laws.FnExactNeighboursOf", spec := "fnExactNeighboursOf", apart := false }
def FnExactNeighboursOfSaid : Prop := fnExactNeighboursOfRow.holds Try.pinned (OpenSpec.ofChange fnExactNeighboursOfSpec)

/-- ITS FALSE NEIGHBOUR: 'it returns false'. Refute it at one input. -/
def fnExactNeighboursOfWrong : ChangeSpec := { name := "fnExactNeighboursOf", fn := fun _ => fun
  | [d1, d2] => { results := [.lit (.bool false)], args := [d1, d2] }
  | _ => none }
def FnExactNeighboursOfWrongFalsely : Prop := fnExactNeighboursOfRow.holds Try.pinned (OpenSpec.ofChange fnExactNeighboursOfWrong)

/-- 'laws.FnExactFirstTable': WHATEVER THE INPUT: true; the input reads as it did. -/
def fnExactFirstTableSpec : ChangeSpec := { name := "fnExactFirstTable", fn := fun _ => fun
  | [d] => { results := [.lit (.bool true)], args := [d] }
  | _ => none }
def fnExactFirstTableRow : OpenClaim := { program := "ytkcoccpacaofiaa", sum := "dadee0c9c1379924d70583a254266f30f17f4b54d2841578edc5cb44421fd67d", func := "loop.example/g01315/laws.FnExactFirstTable", spec := "fnExactFirstTable", apart := false }
def FnExactFirstTableSaid : Prop := fnExactFirstTableRow.holds Try.pinned (OpenSpec.ofChange fnExactFirstTableSpec)

/-- ITS FALSE NEIGHBOUR: 'it returns false'. Refute it at one input. -/
def fnExactFirstTableWrong : ChangeSpec := { name := "fnExactFirstTable", fn := fun _ => fun
  | [d] => { results := [.lit (.bool false)], args := [d] }
  | _ => none }
def FnExactFirstTableWrongFalsely : Prop := fnExactFirstTableRow.holds Try.pinned (OpenSpec.ofChange fnExactFirstTableWrong)

/- THE SECOND FORM. 'bulk': how many values and letters a reading holds, each counted each time it is reached (what is shared counts as often as it is met; a slice's spare places count too). A statement '..UptoSaid' is the law's where the arguments, and the package variables that the reading takes, are together of bulk at most 1048576: NARROWER than '..Said'. Prove '..Said' where nothing that the law and all that it calls make is longer than what came in: it says more and counts as full. Else prove '..UptoSaid'. A law counts once. -/
mutual
def uptoBulk {H : Type} : DataW H → Nat
  | .lit (.string bytes) => bytes.length + 1
  | .lit _ => 1
  | .nil => 1
  | .ptr d => uptoBulk d + 1
  | .slice elems spare => uptoBulkAll elems + uptoBulkAll spare + 1
  | .agg parts => uptoBulkAll parts + 1
  | .iface _ d => uptoBulk d + 1
  | .map entries => uptoBulkEntries entries + 1
  | .held _ => 1
def uptoBulkAll {H : Type} : List (DataW H) → Nat
  | [] => 0
  | d :: r => uptoBulk d + uptoBulkAll r
def uptoBulkEntries {H : Type} : List (Lit × DataW H) → Nat
  | [] => 0
  | x :: r => uptoBulkEntry x + uptoBulkEntries r
def uptoBulkEntry {H : Type} : Lit × DataW H → Nat
  | (.string bytes, d) => bytes.length + uptoBulk d + 1
  | (_, d) => uptoBulk d + 1
 end
def uptoSmall : (H : Type) → List (DataW H) → Bool := fun _ ds => decide (uptoBulkAll ds ≤ 1048576)
def OpenSpec.upto (s : _root_.Go.ChangeSpec) : _root_.Go.OpenSpec := { _root_.Go.OpenSpec.ofChange s with cond := some uptoSmall }

/-- 'laws.FnExactCouplesTogether', WHERE WHAT IT READS IS OF BULK AT MOST 1048576: true; the input reads as it did. -/
def fnExactCouplesTogetherUptoRow : OpenClaim := { program := "ytkcoccpacaofiaa", sum := "dadee0c9c1379924d70583a254266f30f17f4b54d2841578edc5cb44421fd67d", func := "loop.example/g01315/laws.FnExactCouplesTogether", spec := "fnExactCouplesTogether", apart := false, narrowed := true }
def FnExactCouplesTogetherUptoSaid : Prop := fnExactCouplesTogetherUptoRow.holds Try.pinned (OpenSpec.upto fnExactCouplesTogetherSpec)

/-- 'laws.FnExactCouplesInRow', WHERE WHAT IT READS IS OF BULK AT MOST 1048576: true; the input reads as it did. -/
def fnExactCouplesInRowUptoRow : OpenClaim := { program := "ytkcoccpacaofiaa", sum := "dadee0c9c1379924d70583a254266f30f17f4b54d2841578edc5cb44421fd67d", func := "loop.example/g01315/laws.FnExactCouplesInRow", spec := "fnExactCouplesInRow", apart := false, narrowed := true }
def FnExactCouplesInRowUptoSaid : Prop := fnExactCouplesInRowUptoRow.holds Try.pinned (OpenSpec.upto fnExactCouplesInRowSpec)

/-- 'laws.FnExactIsInTurn', WHERE WHAT IT READS IS OF BULK AT MOST 1048576: true; the input reads as it did. -/
def fnExactIsInTurnUptoRow : OpenClaim := { program := "ytkcoccpacaofiaa", sum := "dadee0c9c1379924d70583a254266f30f17f4b54d2841578edc5cb44421fd67d", func := "loop.example/g01315/laws.FnExactIsInTurn", spec := "fnExactIsInTurn", apart := false, narrowed := true }
def FnExactIsInTurnUptoSaid : Prop := fnExactIsInTurnUptoRow.holds Try.pinned (OpenSpec.upto fnExactIsInTurnSpec)

/-- 'laws.FnExactTurnTable', WHERE WHAT IT READS IS OF BULK AT MOST 1048576: true; the input reads as it did. -/
def fnExactTurnTableUptoRow : OpenClaim := { program := "ytkcoccpacaofiaa", sum := "dadee0c9c1379924d70583a254266f30f17f4b54d2841578edc5cb44421fd67d", func := "loop.example/g01315/laws.FnExactTurnTable", spec := "fnExactTurnTable", apart := false, narrowed := true }
def FnExactTurnTableUptoSaid : Prop := fnExactTurnTableUptoRow.holds Try.pinned (OpenSpec.upto fnExactTurnTableSpec)

/-- 'laws.FnExactMirrorTable', WHERE WHAT IT READS IS OF BULK AT MOST 1048576: true; the input reads as it did. -/
def fnExactMirrorTableUptoRow : OpenClaim := { program := "ytkcoccpacaofiaa", sum := "dadee0c9c1379924d70583a254266f30f17f4b54d2841578edc5cb44421fd67d", func := "loop.example/g01315/laws.FnExactMirrorTable", spec := "fnExactMirrorTable", apart := false, narrowed := true }
def FnExactMirrorTableUptoSaid : Prop := fnExactMirrorTableUptoRow.holds Try.pinned (OpenSpec.upto fnExactMirrorTableSpec)

/-- 'laws.FnExactNeighboursOf', WHERE WHAT IT READS IS OF BULK AT MOST 1048576: true; the input reads as it did. -/
def fnExactNeighboursOfUptoRow : OpenClaim := { program := "ytkcoccpacaofiaa", sum := "dadee0c9c1379924d70583a254266f30f17f4b54d2841578edc5cb44421fd67d", func := "loop.example/g01315/laws.FnExactNeighboursOf", spec := "fnExactNeighboursOf", apart := false, narrowed := true }
def FnExactNeighboursOfUptoSaid : Prop := fnExactNeighboursOfUptoRow.holds Try.pinned (OpenSpec.upto fnExactNeighboursOfSpec)

/-- 'laws.FnExactFirstTable', WHERE WHAT IT READS IS OF BULK AT MOST 1048576: true; the input reads as it did. -/
def fnExactFirstTableUptoRow : OpenClaim := { program := "ytkcoccpacaofiaa", sum := "dadee0c9c1379924d70583a254266f30f17f4b54d2841578edc5cb44421fd67d", func := "loop.example/g01315/laws.FnExactFirstTable", spec := "fnExactFirstTable", apart := false, narrowed := true }
def FnExactFirstTableUptoSaid : Prop := fnExactFirstTableUptoRow.holds Try.pinned (OpenSpec.upto fnExactFirstTableSpec)

end Rows
end Go.Proofs.Ytkcoccpacaofiaa
