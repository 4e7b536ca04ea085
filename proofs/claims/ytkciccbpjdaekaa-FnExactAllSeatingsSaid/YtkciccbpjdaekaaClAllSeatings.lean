/- The law FnExactAllSeatings says true for all numbers: AllSeatings answers as its model does, and its answer is memory of its own. No condition. -/
import Derived.Test.YtkciccbpjdaekaaRows
import Derived.Test.YtkciccbpjdaekaaZs5
import Derived.Test.YtkciccbpjdaekaaLwAllSeatings
namespace Go.Proofs.Ytkciccbpjdaekaa
open Go.ChangeShapes Go.WideShapes Go.ChangeAt Go.RowKit Go.Am

theorem own_FnExactAllSeatings : ownKnob Try.prog.godebug = none := by kernel_rfl
theorem laid_FnExactAllSeatings : laidOutB Try.prog = true := by kernel_rfl
theorem closed_FnExactAllSeatings : joinedFacts Try.checked.prog 3 Try.f3 Rows.fnExactAllSeatingsSpec Rows.fnExactAllSeatingsRow = true := by
  unfold joinedFacts
  repeat' (with_reducible refine and_mk ?_ ?_)
  all_goals (first | with_reducible exact factMayEnter | (rw [factLifts]; as_aux_lemma => kernel_rfl) | (rw [factMake]; as_aux_lemma => kernel_rfl) | (as_aux_lemma => kernel_rfl))

set_option maxRecDepth 100000 in
theorem lifted_FnExactAllSeatings (os : Os) (started : os.Started) (H : Type) (enc : TypeId × Value → H) :
    ReturnsInHanded {} Try.checked os 3 .any (Rows.fnExactAllSeatingsSpec.pre6 enc Try.prog Try.f3 Rows.fnExactAllSeatingsRow.domain false) (Rows.fnExactAllSeatingsSpec.post enc Try.prog Try.f3 false true false false) := by
  refine returnsInHanded_of_change (C := Try.checked) own_FnExactAllSeatings started (by kernel_rfl) Try.func3
    (ChangeSpec.witness6 (enc := enc) (C := Try.checked) false ⟨#[], #[.int .i64 0, .int .i64 0], []⟩ 8 (by kernel_rfl) (by kernel_rfl) (by kernel_rfl) (by kernel_rfl)) ?_
  intro W base args ds gs before hval0 hW _ _
  have hval : ∀ (j : Nat) t v, Try.f3.params[j]? = some t → args[j]? = some v → Value.okWide Try.prog W .any base t v := hval0
  have hW' := hW
  obtain ⟨p, q, hA0, hV, hpq, hz, hn⟩ := hW
  have hA : DataW.TrodAll enc Try.prog W 0 (fun _ => true) true Try.f3.params.toList args.toList ds p := hA0
  rw [Try.params3] at hA hval
  obtain ⟨v0, v1, d0, d1, p0, p1, rfl, rfl, hps, h0, h1⟩ := trodAll_two hA
  obtain ⟨rfl, rfl⟩ := trodVars_none hV
  obtain ⟨x0, hx0, hl0, hb0⟩ := arg_int Try.underlying3 (hval 0 3 v0 rfl rfl) h0
  obtain ⟨x1, hx1, hl1, hb1⟩ := arg_int Try.underlying3 (hval 1 3 v1 rfl rfl) h1
  refine (law_calls (lawAllSeatings x0 x1) (by simp only [SimL, and_true]; exact ⟨hx0, hx1⟩) rfl).mono fun e W' ⟨he, hm⟩ => ?_
  subst he
  exact ⟨_, rfl, law_post laid_FnExactAllSeatings hW' rfl rfl (bt := 4) rfl Try.underlying4 (by rw [Try.params3]; decide +kernel) hm⟩

theorem fnExactAllSeatings_holds : Rows.FnExactAllSeatingsSaid :=
  OpenClaim.holds_of_wide 3 Try.f3 rfl rfl rfl rfl rfl rfl rfl ⟨rfl, rfl, rfl, rfl, rfl⟩ rfl rfl rfl rfl rfl (by kernel_rfl) Try.func3 closed_FnExactAllSeatings
    (of_decide_eq_true (by kernel_rfl)) (by unfold Func.isWrapper; first | (rw [if_pos (by decide +kernel)]; kernel_rfl) | (rw [if_neg (by decide +kernel)]; exact ⟨rfl, rfl⟩))
    (fun os started H enc _ => lifted_FnExactAllSeatings os started H enc)
end Go.Proofs.Ytkciccbpjdaekaa
