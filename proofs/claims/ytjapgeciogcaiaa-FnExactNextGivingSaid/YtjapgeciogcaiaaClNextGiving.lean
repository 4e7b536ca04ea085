/- The law FnExactNextGiving says true for all lists: NextGiving answers as its model does, leaves the lists alone, and its answer is memory of its own. No condition. -/
import Derived.Test.YtjapgeciogcaiaaRows
import Derived.Test.YtjapgeciogcaiaaAmN
import Derived.Test.YtjapgeciogcaiaaFcA
import Derived.Test.YtjapgeciogcaiaaFcB
import Derived.Test.YtjapgeciogcaiaaFcC
import Derived.Test.YtjapgeciogcaiaaLwNextGiving
namespace Go.Proofs.Ytjapgeciogcaiaa
open Go.ChangeShapes Go.WideShapes Go.ChangeAt Go.RowKit Go.Am

theorem own_FnExactNextGiving : ownKnob Try.prog.godebug = none := by kernel_rfl
theorem laid_FnExactNextGiving : laidOutB Try.prog = true := by kernel_rfl
theorem closed_FnExactNextGiving : joinedFacts Try.checked.prog 6 Try.f6 Rows.fnExactNextGivingSpec Rows.fnExactNextGivingRow = true := by
  unfold joinedFacts
  repeat' (with_reducible refine and_mk ?_ ?_)
  all_goals (first | with_reducible exact factMayEnter | (rw [factLifts]; as_aux_lemma => kernel_rfl) | (rw [factMake]; as_aux_lemma => kernel_rfl) | (as_aux_lemma => kernel_rfl))

set_option maxRecDepth 100000 in
theorem lifted_FnExactNextGiving (os : Os) (started : os.Started) (H : Type) (enc : TypeId × Value → H) :
    ReturnsInHanded {} Try.checked os 6 .any (Rows.fnExactNextGivingSpec.pre6 enc Try.prog Try.f6 Rows.fnExactNextGivingRow.domain false) (Rows.fnExactNextGivingSpec.post enc Try.prog Try.f6 false true false false) := by
  refine returnsInHanded_of_change (C := Try.checked) own_FnExactNextGiving started (by kernel_rfl) Try.func6
    (ChangeSpec.witness6 (enc := enc) (C := Try.checked) false ⟨#[], #[.slice none 0 0, .slice none 0 0], []⟩ 8 (by kernel_rfl) (by kernel_rfl) (by kernel_rfl) (by kernel_rfl)) ?_
  intro W base args ds gs before hval0 hW _ _
  have hval : ∀ (j : Nat) t v, Try.f6.params[j]? = some t → args[j]? = some v → Value.okWide Try.prog W .any base t v := hval0
  have hW' := hW
  obtain ⟨p, q, hA0, hV, hpq, hz, hn⟩ := hW
  have hA : DataW.TrodAll enc Try.prog W 0 (fun _ => true) true Try.f6.params.toList args.toList ds p := hA0
  rw [Try.params6] at hA hval
  obtain ⟨v0, v1, d0, d1, p0, p1, rfl, rfl, hps, h0, h1⟩ := trodAll_two hA
  obtain ⟨rfl, rfl⟩ := trodVars_none hV
  obtain ⟨x0, hx0, hl0, hb0⟩ := arg_ints Try.underlying22 Try.underlying3 (by kernel_rfl) (hval 0 22 v0 rfl rfl) h0
  obtain ⟨x1, hx1, hl1, hb1⟩ := arg_ints Try.underlying22 Try.underlying3 (by kernel_rfl) (hval 1 22 v1 rfl rfl) h1
  refine (law_calls (lawNextGiving x0 x1) (by simp only [SimL, and_true]; exact ⟨hx0, hx1⟩) rfl).mono fun e W' ⟨he, hm⟩ => ?_
  subst he
  exact ⟨_, rfl, law_post laid_FnExactNextGiving hW' rfl rfl (bt := 4) rfl Try.underlying4 (by rw [Try.params6]; decide +kernel) hm⟩

theorem fnExactNextGiving_holds : Rows.FnExactNextGivingSaid :=
  OpenClaim.holds_of_wide 6 Try.f6 rfl rfl rfl rfl rfl rfl rfl ⟨rfl, rfl, rfl, rfl, rfl⟩ rfl rfl rfl rfl rfl (by kernel_rfl) Try.func6 closed_FnExactNextGiving
    (of_decide_eq_true (by kernel_rfl)) (by unfold Func.isWrapper; first | (rw [if_pos (by decide +kernel)]; kernel_rfl) | (rw [if_neg (by decide +kernel)]; exact ⟨rfl, rfl⟩))
    (fun os started H enc _ => lifted_FnExactNextGiving os started H enc)
end Go.Proofs.Ytjapgeciogcaiaa
