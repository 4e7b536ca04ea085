/- The law FnExactFirstRing says true for every list: FirstRing answers as its model does, leaves the list alone, and its answer is memory of its own. No condition. -/
import Derived.Test.YtlcjipgnflncfaaRows
import Derived.Test.YtlcjipgnflncfaaAmN
import Derived.Test.YtlcjipgnflncfaaFcA
import Derived.Test.YtlcjipgnflncfaaFcB
import Derived.Test.YtlcjipgnflncfaaFcC
import Derived.Test.YtlcjipgnflncfaaLwFirstRing
namespace Go.Proofs.Ytlcjipgnflncfaa
open Go.ChangeShapes Go.WideShapes Go.ChangeAt Go.RowKit Go.Am

theorem own_FnExactFirstRing : ownKnob Try.prog.godebug = none := by kernel_rfl
theorem laid_FnExactFirstRing : laidOutB Try.prog = true := by kernel_rfl
theorem closed_FnExactFirstRing : joinedFacts Try.checked.prog 3 Try.f3 Rows.fnExactFirstRingSpec Rows.fnExactFirstRingRow = true := by
  unfold joinedFacts
  repeat' (with_reducible refine and_mk ?_ ?_)
  all_goals (first | with_reducible exact factMayEnter | (rw [factLifts]; as_aux_lemma => kernel_rfl) | (rw [factMake]; as_aux_lemma => kernel_rfl) | (as_aux_lemma => kernel_rfl))

set_option maxRecDepth 100000 in
theorem lifted_FnExactFirstRing (os : Os) (started : os.Started) (H : Type) (enc : TypeId × Value → H) :
    ReturnsInHanded {} Try.checked os 3 .any (Rows.fnExactFirstRingSpec.pre6 enc Try.prog Try.f3 Rows.fnExactFirstRingRow.domain false) (Rows.fnExactFirstRingSpec.post enc Try.prog Try.f3 false true false false) := by
  refine returnsInHanded_of_change (C := Try.checked) own_FnExactFirstRing started (by kernel_rfl) Try.func3
    (ChangeSpec.witness6 (enc := enc) (C := Try.checked) false ⟨#[], #[.slice none 0 0], []⟩ 8 (by kernel_rfl) (by kernel_rfl) (by kernel_rfl) (by kernel_rfl)) ?_
  intro W base args ds gs before hval0 hW _ _
  have hval : ∀ (j : Nat) t v, Try.f3.params[j]? = some t → args[j]? = some v → Value.okWide Try.prog W .any base t v := hval0
  have hW' := hW
  obtain ⟨p, q, hA0, hV, hpq, hz, hn⟩ := hW
  have hA : DataW.TrodAll enc Try.prog W 0 (fun _ => true) true Try.f3.params.toList args.toList ds p := hA0
  rw [Try.params3] at hA hval
  obtain ⟨v0, d0, rfl, rfl, h0⟩ := trodAll_one hA
  obtain ⟨rfl, rfl⟩ := trodVars_none hV
  obtain ⟨x0, hx0, hl0, hb0⟩ := arg_ints Try.underlying22 Try.underlying3 (by kernel_rfl) (hval 0 22 v0 rfl rfl) h0
  refine (law_calls (lawFirstRing x0) (by simp only [SimL, and_true]; exact hx0) rfl).mono fun e W' ⟨he, hm⟩ => ?_
  subst he
  exact ⟨_, rfl, law_post laid_FnExactFirstRing hW' rfl rfl (bt := 4) rfl Try.underlying4 (by rw [Try.params3]; decide +kernel) hm⟩

theorem fnExactFirstRing_holds : Rows.FnExactFirstRingSaid :=
  OpenClaim.holds_of_wide 3 Try.f3 rfl rfl rfl rfl rfl rfl rfl ⟨rfl, rfl, rfl, rfl, rfl⟩ rfl rfl rfl rfl rfl (by kernel_rfl) Try.func3 closed_FnExactFirstRing
    (of_decide_eq_true (by kernel_rfl)) (by unfold Func.isWrapper; first | (rw [if_pos (by decide +kernel)]; kernel_rfl) | (rw [if_neg (by decide +kernel)]; exact ⟨rfl, rfl⟩))
    (fun os started H enc _ => lifted_FnExactFirstRing os started H enc)
end Go.Proofs.Ytlcjipgnflncfaa
