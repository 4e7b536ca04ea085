/- The law FnExactDoesFit says true for every clue and list: DoesFit answers as its model does, and leaves the list alone. No condition. -/
import Derived.Test.YtpohldecllkjbaaRows
import Derived.Test.YtpohldecllkjbaaZs6
import Derived.Test.YtpohldecllkjbaaLwDoesFit
namespace Go.Proofs.Ytpohldecllkjbaa
open Go.ChangeShapes Go.WideShapes Go.ChangeAt Go.RowKit Go.Am

theorem own_FnExactDoesFit : ownKnob Try.prog.godebug = none := by kernel_rfl
theorem laid_FnExactDoesFit : laidOutB Try.prog = true := by kernel_rfl
theorem closed_FnExactDoesFit : joinedFacts Try.checked.prog 14 Try.f14 Rows.fnExactDoesFitSpec Rows.fnExactDoesFitRow = true := by
  unfold joinedFacts
  repeat' (with_reducible refine and_mk ?_ ?_)
  all_goals (first | with_reducible exact factMayEnter | (rw [factLifts]; as_aux_lemma => kernel_rfl) | (rw [factMake]; as_aux_lemma => kernel_rfl) | (as_aux_lemma => kernel_rfl))

set_option maxRecDepth 100000 in
theorem lifted_FnExactDoesFit (os : Os) (started : os.Started) (H : Type) (enc : TypeId × Value → H) :
    ReturnsInHanded {} Try.checked os 14 .any (Rows.fnExactDoesFitSpec.pre6 enc Try.prog Try.f14 Rows.fnExactDoesFitRow.domain false) (Rows.fnExactDoesFitSpec.post enc Try.prog Try.f14 false true false false) := by
  refine returnsInHanded_of_change (C := Try.checked) own_FnExactDoesFit started (by kernel_rfl) Try.func14
    (ChangeSpec.witness6 (enc := enc) (C := Try.checked) false ⟨#[], #[.agg #[.int .i64 0, .int .i64 0, .int .i64 0], .slice none 0 0], []⟩ 8 (by kernel_rfl) (by kernel_rfl) (by kernel_rfl) (by kernel_rfl)) ?_
  intro W base args ds gs before hval0 hW _ _
  have hval : ∀ (j : Nat) t v, Try.f14.params[j]? = some t → args[j]? = some v → Value.okWide Try.prog W .any base t v := hval0
  have hW' := hW
  obtain ⟨p, q, hA0, hV, hpq, hz, hn⟩ := hW
  have hA : DataW.TrodAll enc Try.prog W 0 (fun _ => true) true Try.f14.params.toList args.toList ds p := hA0
  rw [Try.params14] at hA hval
  obtain ⟨v0, v1, d0, d1, p0, p1, rfl, rfl, hps, h0, h1⟩ := trodAll_two hA
  obtain ⟨rfl, rfl⟩ := trodVars_none hV
  obtain ⟨x0, hx0, hl0, hb0⟩ := arg_clu ⟨Try.underlying23, Try.underlying3, Try.underlying3, Try.underlying3, rfl, rfl, rfl, by kernel_rfl, by kernel_rfl, by kernel_rfl, by kernel_rfl⟩ (hval 0 23 v0 rfl rfl) h0
  obtain ⟨x1, hx1, hl1, hb1⟩ := arg_ints Try.underlying47 Try.underlying3 (by kernel_rfl) (hval 1 47 v1 rfl rfl) h1
  refine (law_calls (lawDoesFit x0 x1) (by simp only [SimL, and_true]; exact ⟨hx0, hx1⟩) rfl).mono fun e W' ⟨he, hm⟩ => ?_
  subst he
  exact ⟨_, rfl, law_post laid_FnExactDoesFit hW' rfl rfl (bt := 4) rfl Try.underlying4 (by rw [Try.params14]; decide +kernel) hm⟩

theorem fnExactDoesFit_holds : Rows.FnExactDoesFitSaid :=
  OpenClaim.holds_of_wide 14 Try.f14 rfl rfl rfl rfl rfl rfl rfl ⟨rfl, rfl, rfl, rfl, rfl⟩ rfl rfl rfl rfl rfl (by kernel_rfl) Try.func14 closed_FnExactDoesFit
    (of_decide_eq_true (by kernel_rfl)) (by unfold Func.isWrapper; first | (rw [if_pos (by decide +kernel)]; kernel_rfl) | (rw [if_neg (by decide +kernel)]; exact ⟨rfl, rfl⟩))
    (fun os started H enc _ => lifted_FnExactDoesFit os started H enc)
end Go.Proofs.Ytpohldecllkjbaa
