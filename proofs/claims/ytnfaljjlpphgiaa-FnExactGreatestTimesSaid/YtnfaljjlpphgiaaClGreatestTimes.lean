/- The law FnExactGreatestTimes says true for all arguments: GreatestTimes answers as its model does, and writes into none of them. No condition. -/
import Derived.Test.YtnfaljjlpphgiaaRows
import Derived.Test.YtnfaljjlpphgiaaAmN
import Derived.Test.YtnfaljjlpphgiaaFcA
import Derived.Test.YtnfaljjlpphgiaaFcB
import Derived.Test.YtnfaljjlpphgiaaFcC
import Derived.Test.YtnfaljjlpphgiaaLwGreatestTimes
namespace Go.Proofs.Ytnfaljjlpphgiaa
open Go.ChangeShapes Go.WideShapes Go.ChangeAt Go.RowKit Go.Am

theorem own_FnExactGreatestTimes : ownKnob Try.prog.godebug = none := by kernel_rfl
theorem laid_FnExactGreatestTimes : laidOutB Try.prog = true := by kernel_rfl
theorem closed_FnExactGreatestTimes : joinedFacts Try.checked.prog 10 Try.f10 Rows.fnExactGreatestTimesSpec Rows.fnExactGreatestTimesRow = true := by
  unfold joinedFacts
  repeat' (with_reducible refine and_mk ?_ ?_)
  all_goals (first | with_reducible exact factMayEnter | (rw [factLifts]; as_aux_lemma => kernel_rfl) | (rw [factMake]; as_aux_lemma => kernel_rfl) | (as_aux_lemma => kernel_rfl))

set_option maxRecDepth 100000 in
theorem lifted_FnExactGreatestTimes (os : Os) (started : os.Started) (H : Type) (enc : TypeId × Value → H) :
    ReturnsInHanded {} Try.checked os 10 .any (Rows.fnExactGreatestTimesSpec.pre6 enc Try.prog Try.f10 Rows.fnExactGreatestTimesRow.domain false) (Rows.fnExactGreatestTimesSpec.post enc Try.prog Try.f10 false true false false) := by
  refine returnsInHanded_of_change (C := Try.checked) own_FnExactGreatestTimes started (by kernel_rfl) Try.func10
    (ChangeSpec.witness6 (enc := enc) (C := Try.checked) false ⟨#[], #[.int .i64 0], []⟩ 8 (by kernel_rfl) (by kernel_rfl) (by kernel_rfl) (by kernel_rfl)) ?_
  intro W base args ds gs before hval0 hW _ _
  have hval : ∀ (j : Nat) t v, Try.f10.params[j]? = some t → args[j]? = some v → Value.okWide Try.prog W .any base t v := hval0
  have hW' := hW
  obtain ⟨p, q, hA0, hV, hpq, hz, hn⟩ := hW
  have hA : DataW.TrodAll enc Try.prog W 0 (fun _ => true) true Try.f10.params.toList args.toList ds p := hA0
  rw [Try.params10] at hA hval
  obtain ⟨v0, d0, rfl, rfl, h0⟩ := trodAll_one hA
  obtain ⟨rfl, rfl⟩ := trodVars_none hV
  obtain ⟨x0, hx0, hl0, hb0⟩ := arg_int Try.underlying3 (hval 0 3 v0 rfl rfl) h0
  refine (law_calls (lawGreatestTimes x0) (by simp only [SimL, and_true]; exact hx0) rfl).mono fun e W' ⟨he, hm⟩ => ?_
  subst he
  exact ⟨_, rfl, law_post laid_FnExactGreatestTimes hW' rfl rfl (bt := 4) rfl Try.underlying4 (by rw [Try.params10]; decide +kernel) hm⟩

theorem fnExactGreatestTimes_holds : Rows.FnExactGreatestTimesSaid :=
  OpenClaim.holds_of_wide 10 Try.f10 rfl rfl rfl rfl rfl rfl rfl ⟨rfl, rfl, rfl, rfl, rfl⟩ rfl rfl rfl rfl rfl (by kernel_rfl) Try.func10 closed_FnExactGreatestTimes
    (of_decide_eq_true (by kernel_rfl)) (by unfold Func.isWrapper; first | (rw [if_pos (by decide +kernel)]; kernel_rfl) | (rw [if_neg (by decide +kernel)]; exact ⟨rfl, rfl⟩))
    (fun os started H enc _ => lifted_FnExactGreatestTimes os started H enc)
end Go.Proofs.Ytnfaljjlpphgiaa
