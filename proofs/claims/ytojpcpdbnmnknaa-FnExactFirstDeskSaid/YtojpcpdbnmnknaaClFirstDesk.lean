/- The law FnExactFirstDesk says true: FirstDesk answers as its model does, and its answer is memory of its own. No condition. -/
import Derived.Test.YtojpcpdbnmnknaaRows
import Derived.Test.YtojpcpdbnmnknaaAmN
import Derived.Test.YtojpcpdbnmnknaaFcA
import Derived.Test.YtojpcpdbnmnknaaFcB
import Derived.Test.YtojpcpdbnmnknaaFcC
import Derived.Test.YtojpcpdbnmnknaaLwFirstDesk
namespace Go.Proofs.Ytojpcpdbnmnknaa
open Go.ChangeShapes Go.WideShapes Go.ChangeAt Go.RowKit Go.Am

theorem own_FnExactFirstDesk : ownKnob Try.prog.godebug = none := by kernel_rfl
theorem laid_FnExactFirstDesk : laidOutB Try.prog = true := by kernel_rfl
theorem closed_FnExactFirstDesk : joinedFacts Try.checked.prog 3 Try.f3 Rows.fnExactFirstDeskSpec Rows.fnExactFirstDeskRow = true := by
  unfold joinedFacts
  repeat' (with_reducible refine and_mk ?_ ?_)
  all_goals (first | with_reducible exact factMayEnter | (rw [factLifts]; as_aux_lemma => kernel_rfl) | (rw [factMake]; as_aux_lemma => kernel_rfl) | (as_aux_lemma => kernel_rfl))

set_option maxRecDepth 100000 in
theorem lifted_FnExactFirstDesk (os : Os) (started : os.Started) (H : Type) (enc : TypeId × Value → H) :
    ReturnsInHanded {} Try.checked os 3 .any (Rows.fnExactFirstDeskSpec.pre6 enc Try.prog Try.f3 Rows.fnExactFirstDeskRow.domain false) (Rows.fnExactFirstDeskSpec.post enc Try.prog Try.f3 false true false false) := by
  refine returnsInHanded_of_change (C := Try.checked) own_FnExactFirstDesk started (by kernel_rfl) Try.func3
    (ChangeSpec.witness6 (enc := enc) (C := Try.checked) false ⟨#[], #[], []⟩ 8 (by kernel_rfl) (by kernel_rfl) (by kernel_rfl) (by kernel_rfl)) ?_
  intro W base args ds gs before hval0 hW _ _
  have hval : ∀ (j : Nat) t v, Try.f3.params[j]? = some t → args[j]? = some v → Value.okWide Try.prog W .any base t v := hval0
  have hW' := hW
  obtain ⟨p, q, hA0, hV, hpq, hz, hn⟩ := hW
  have hA : DataW.TrodAll enc Try.prog W 0 (fun _ => true) true Try.f3.params.toList args.toList ds p := hA0
  rw [Try.params3] at hA hval
  obtain ⟨rfl, rfl, rfl⟩ := trodAll_none hA
  obtain ⟨rfl, rfl⟩ := trodVars_none hV

  refine (law_calls lawFirstDesk (by simp only [SimL]) rfl).mono fun e W' ⟨he, hm⟩ => ?_
  subst he
  exact ⟨_, rfl, law_post laid_FnExactFirstDesk hW' rfl rfl (bt := 4) rfl Try.underlying4 (by rw [Try.params3]; decide +kernel) hm⟩

theorem fnExactFirstDesk_holds : Rows.FnExactFirstDeskSaid :=
  OpenClaim.holds_of_wide 3 Try.f3 rfl rfl rfl rfl rfl rfl rfl ⟨rfl, rfl, rfl, rfl, rfl⟩ rfl rfl rfl rfl rfl (by kernel_rfl) Try.func3 closed_FnExactFirstDesk
    (of_decide_eq_true (by kernel_rfl)) (by unfold Func.isWrapper; first | (rw [if_pos (by decide +kernel)]; kernel_rfl) | (rw [if_neg (by decide +kernel)]; exact ⟨rfl, rfl⟩))
    (fun os started H enc _ => lifted_FnExactFirstDesk os started H enc)
end Go.Proofs.Ytojpcpdbnmnknaa
