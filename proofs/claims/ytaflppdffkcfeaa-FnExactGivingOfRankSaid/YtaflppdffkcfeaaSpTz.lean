/- Contracts: the trailing zeros of a set of sixteen bits. -/
import Derived.Test.YtaflppdffkcfeaaAmX
import Derived.Test.YtaflppdffkcfeaaProg
import Derived.Shelf.Spec.TrailingZeros
import Derived.WalkKit
import Derived.Laws.Bits64b
namespace Go.Am
/-- A call with one told value, of a world with the told variables, that gives one told value and changes nothing. -/
theorem sp_good {P : Program} {f : FuncId} {x y : Value} (h : ∀ w, GoodW w → Calls P f #[x] w fun e w' => e = .returned y ∧ w' = w) : Sp P f [.v x] (.v y) := by
  intro w vs hg hent
  obtain ⟨hs, hl⟩ := hent
  obtain ⟨l⟩ := vs
  match l with
  | [] => simp at hl
  | [a] =>
    simp only [SimL, SimV, and_true] at hs
    subst hs
    refine (h w hg).mono fun e w' hp => ?_
    obtain ⟨rfl, rfl⟩ := hp
    exact ⟨y, rfl, More.refl _, by simp [SimV]⟩
  | _ :: _ :: _ => simp at hl
end Go.Am
namespace Go.Proofs.Ytaflppdffkcfeaa
open Go.RowKit Go.Am

end Go.Proofs.Ytaflppdffkcfeaa
