/-
  No cell of these rows narrows 'for every input' (looked for: loops, veiled, ifaces, maps, wideKeys, modest, calm, conditions, laid).
  DERIVED. THE GIVEN ROWS OF THIS SEAT. 2 by the template 'for every input the law returns true; each argument reads behind the call as it read before'; 0 by the template 'total and deterministic' (their statements: YtlmoopejihmhbaaTotals.lean).
  GIVEN WITH THE SEED: the statements are not yours to turn. If you find one false, say at which input.
  Laid BY PROGRAM, IN A SANDBOX (cutbox-rows.mjs): the forced cells as the released guide's own fill.sh prints them over the translation 44df3e1593086201… (all of the seat's roots in one cut). By AI agents, Wed Nov 11 2026. No macro, syntax, notation, axiom, sorry.
-/
import Derived.Test.YtlmoopejihmhbaaChecked
import GoSem.Claim
import GoSem.ClaimJoined
import GoSem.ClaimMapViews
import Derived.JoinedTies
import Derived.KernelRfl
namespace Go.Proofs.Ytlmoopejihmhbaa
/- THE CELL 'sum', in the pinned program and in every row, IS THE sha256 OF THE DUMP (.gsa) THAT YtlmoopejihmhbaaProg.lean LOADS. Nothing in Lean hashes anything: it is a label: what it is worth is what the hold of that sum in a sandbox is worth. -/
noncomputable def Try.pinned : Pinned := { name := "ytlmoopejihmhbaa", sum := "44df3e159308620150b2bcde3a458ca3864e5764025b84975cb1d441edec61f5", checked := Try.checked }
namespace Rows
def none {H : Type} : Left H := { results := [], args := [] }

/-- 'laws.FnExactOwnBoard': WHATEVER THE INPUT: true; the input reads as it did. -/
def fnExactOwnBoardSpec : ChangeSpec := { name := "fnExactOwnBoard", fn := fun _ => fun
  | [d] => { results := [.lit (.bool true)], args := [d] }
  | _ => none }
def fnExactOwnBoardRow : OpenClaim := { program := "ytlmoopejihmhbaa", sum := "44df3e159308620150b2bcde3a458ca3864e5764025b84975cb1d441edec61f5", func := "loop.example/g01315/laws.FnExactOwnBoard", spec := "fnExactOwnBoard", unfollowed := true, recurses := true, apart := false }
def FnExactOwnBoardSaid : Prop := fnExactOwnBoardRow.holds Try.pinned (OpenSpec.ofChange fnExactOwnBoardSpec)

/-- ITS FALSE NEIGHBOUR: 'it returns false'. Refute it at one input. -/
def fnExactOwnBoardWrong : ChangeSpec := { name := "fnExactOwnBoard", fn := fun _ => fun
  | [d] => { results := [.lit (.bool false)], args := [d] }
  | _ => none }
def FnExactOwnBoardWrongFalsely : Prop := fnExactOwnBoardRow.holds Try.pinned (OpenSpec.ofChange fnExactOwnBoardWrong)

/-- 'laws.FnExactCoupleBoard': WHATEVER THE INPUT: true; the input reads as it did. -/
def fnExactCoupleBoardSpec : ChangeSpec := { name := "fnExactCoupleBoard", fn := fun _ => fun
  | [d] => { results := [.lit (.bool true)], args := [d] }
  | _ => none }
def fnExactCoupleBoardRow : OpenClaim := { program := "ytlmoopejihmhbaa", sum := "44df3e159308620150b2bcde3a458ca3864e5764025b84975cb1d441edec61f5", func := "loop.example/g01315/laws.FnExactCoupleBoard", spec := "fnExactCoupleBoard", unfollowed := true, recurses := true, apart := false }
def FnExactCoupleBoardSaid : Prop := fnExactCoupleBoardRow.holds Try.pinned (OpenSpec.ofChange fnExactCoupleBoardSpec)

/-- ITS FALSE NEIGHBOUR: 'it returns false'. Refute it at one input. -/
def fnExactCoupleBoardWrong : ChangeSpec := { name := "fnExactCoupleBoard", fn := fun _ => fun
  | [d] => { results := [.lit (.bool false)], args := [d] }
  | _ => none }
def FnExactCoupleBoardWrongFalsely : Prop := fnExactCoupleBoardRow.holds Try.pinned (OpenSpec.ofChange fnExactCoupleBoardWrong)

/- THE SECOND FORM. 'bulk': how many values and letters a reading holds, each counted each time it is reached (what is shared counts as often as it is met; a slice's spare places count too). A statement '..UptoSaid' is the law's where the arguments, and the package variables that the reading takes, are together of bulk at most 1048576: NARROWER than '..Said'. Prove '..Said' where nothing that the law and all that it calls make is longer than what came in: it says more and counts as full. Else prove '..UptoSaid'. A law counts once. -/
mutual
def uptoBulk {H : Type} : DataW H → Nat
  | .lit (.string bytes) => bytes.length + 1
  | .lit _ => 1
  | .nil => 1
  | .ptr d => uptoBulk d + 1
  | .slice elems spare => uptoBulkAll elems + uptoBulkAll spare + 1
  | .agg parts => uptoBulkAll parts + 1
  | .iface _ d => uptoBulk d + 1
  | .map entries => uptoBulkEntries entries + 1
  | .held _ => 1
def uptoBulkAll {H : Type} : List (DataW H) → Nat
  | [] => 0
  | d :: r => uptoBulk d + uptoBulkAll r
def uptoBulkEntries {H : Type} : List (Lit × DataW H) → Nat
  | [] => 0
  | x :: r => uptoBulkEntry x + uptoBulkEntries r
def uptoBulkEntry {H : Type} : Lit × DataW H → Nat
  | (.string bytes, d) => bytes.length + uptoBulk d + 1
  | (_, d) => uptoBulk d + 1
 end
def uptoSmall : (H : Type) → List (DataW H) → Bool := fun _ ds => decide (uptoBulkAll ds ≤ 1048576)
def OpenSpec.upto (s : _root_.Go.ChangeSpec) : _root_.Go.OpenSpec := { _root_.Go.OpenSpec.ofChange s with cond := some uptoSmall }

/-- 'laws.FnExactOwnBoard', WHERE WHAT IT READS IS OF BULK AT MOST 1048576: true; the input reads as it did. -/
def fnExactOwnBoardUptoRow : OpenClaim := { program := "ytlmoopejihmhbaa", sum := "44df3e159308620150b2bcde3a458ca3864e5764025b84975cb1d441edec61f5", func := "loop.example/g01315/laws.FnExactOwnBoard", spec := "fnExactOwnBoard", unfollowed := true, recurses := true, apart := false, narrowed := true }
def FnExactOwnBoardUptoSaid : Prop := fnExactOwnBoardUptoRow.holds Try.pinned (OpenSpec.upto fnExactOwnBoardSpec)

/-- 'laws.FnExactCoupleBoard', WHERE WHAT IT READS IS OF BULK AT MOST 1048576: true; the input reads as it did. -/
def fnExactCoupleBoardUptoRow : OpenClaim := { program := "ytlmoopejihmhbaa", sum := "44df3e159308620150b2bcde3a458ca3864e5764025b84975cb1d441edec61f5", func := "loop.example/g01315/laws.FnExactCoupleBoard", spec := "fnExactCoupleBoard", unfollowed := true, recurses := true, apart := false, narrowed := true }
def FnExactCoupleBoardUptoSaid : Prop := fnExactCoupleBoardUptoRow.holds Try.pinned (OpenSpec.upto fnExactCoupleBoardSpec)

end Rows
end Go.Proofs.Ytlmoopejihmhbaa
