/- The law FnExactHarderPuzzle says true for every puzzle: HarderPuzzle answers as its model does, leaves the puzzle alone, and its answer is memory of its own. No condition. -/
import Derived.Test.YteiipnadhalnbaaRows
import Derived.Test.YteiipnadhalnbaaZh6
import Derived.Test.YteiipnadhalnbaaLwHarderPuzzle
namespace Go.Proofs.Yteiipnadhalnbaa
open Go.ChangeShapes Go.WideShapes Go.ChangeAt Go.RowKit Go.Am

theorem own_FnExactHarderPuzzle : ownKnob Try.prog.godebug = none := by kernel_rfl

theorem laid_FnExactHarderPuzzle : laidOutB Try.prog = true := by kernel_rfl

theorem closed_FnExactHarderPuzzle : joinedFacts Try.checked.prog 4 Try.f4 Rows.fnExactHarderPuzzleSpec Rows.fnExactHarderPuzzleRow = true := by
  unfold joinedFacts
  repeat' (with_reducible refine and_mk ?_ ?_)
  all_goals (first | with_reducible exact factMayEnter | (rw [factLifts]; as_aux_lemma => kernel_rfl) | (rw [factMake]; as_aux_lemma => kernel_rfl) | (as_aux_lemma => kernel_rfl))

set_option maxRecDepth 100000 in
theorem lifted_FnExactHarderPuzzle (os : Os) (started : os.Started) (H : Type) (enc : TypeId × Value → H) :
    ReturnsInHanded {} Try.checked os 4 .any (Rows.fnExactHarderPuzzleSpec.pre6 enc Try.prog Try.f4 Rows.fnExactHarderPuzzleRow.domain false) (Rows.fnExactHarderPuzzleSpec.post enc Try.prog Try.f4 false true false false) := by
  refine returnsInHanded_of_change (C := Try.checked) own_FnExactHarderPuzzle started (by kernel_rfl) Try.func4
    (ChangeSpec.witness6 (enc := enc) (C := Try.checked) false ⟨#[], #[.agg #[.int .i64 0, .slice none 0 0]], []⟩ 8 (by kernel_rfl) (by kernel_rfl) (by kernel_rfl) (by kernel_rfl)) ?_
  intro W base args ds gs before hval0 hW _ _
  have hval : ∀ (j : Nat) t v, Try.f4.params[j]? = some t → args[j]? = some v → Value.okWide Try.prog W .any base t v := hval0
  have hW' := hW
  obtain ⟨p, q, hA0, hV, hpq, hz, hn⟩ := hW
  have hA : DataW.TrodAll enc Try.prog W 0 (fun _ => true) true Try.f4.params.toList args.toList ds p := hA0
  rw [Try.params4] at hA hval
  obtain ⟨v0, d0, rfl, rfl, h0⟩ := trodAll_one hA
  obtain ⟨rfl, rfl⟩ := trodVars_none hV
  obtain ⟨x0, hx0, hl0, hb0⟩ := arg_pzl Try.underlying24 Try.underlying3 Try.underlying22 ⟨Try.underlying26, Try.underlying3, Try.underlying3, Try.underlying3, rfl, rfl, rfl, by kernel_rfl, by kernel_rfl, by kernel_rfl, by kernel_rfl⟩ (by kernel_rfl) ⟨rfl, by kernel_rfl, rfl, by kernel_rfl⟩ (hval 0 24 v0 rfl rfl) h0
  refine (law_calls (lawHarderPuzzle x0.1 x0.2 hl0) (by simp only [SimL, and_true]; exact hx0) rfl).mono fun e W' ⟨he, hm⟩ => ?_
  subst he
  exact ⟨_, rfl, law_post laid_FnExactHarderPuzzle hW' rfl rfl (bt := 4) rfl Try.underlying4 (by rw [Try.params4]; decide +kernel) hm⟩

theorem fnExactHarderPuzzle_holds : Rows.FnExactHarderPuzzleSaid :=
  OpenClaim.holds_of_wide 4 Try.f4 rfl rfl rfl rfl rfl rfl rfl ⟨rfl, rfl, rfl, rfl, rfl⟩ rfl rfl rfl rfl rfl (by kernel_rfl) Try.func4 closed_FnExactHarderPuzzle
    (of_decide_eq_true (by kernel_rfl)) (by unfold Func.isWrapper; first | (rw [if_pos (by decide +kernel)]; kernel_rfl) | (rw [if_neg (by decide +kernel)]; exact ⟨rfl, rfl⟩))
    (fun os started H enc _ => lifted_FnExactHarderPuzzle os started H enc)
end Go.Proofs.Yteiipnadhalnbaa
