/- The law FnExactDropClue says true for every puzzle and index: DropClue answers as its model does, leaves the puzzle alone, and its answer is memory of its own. No condition. -/
import Derived.Test.YtpohldecllkjbaaRows
import Derived.Test.YtpohldecllkjbaaZw6
import Derived.Test.YtpohldecllkjbaaLwDropClue
namespace Go.Proofs.Ytpohldecllkjbaa
open Go.ChangeShapes Go.WideShapes Go.ChangeAt Go.RowKit Go.Am

theorem own_FnExactDropClue : ownKnob Try.prog.godebug = none := by kernel_rfl
theorem laid_FnExactDropClue : laidOutB Try.prog = true := by kernel_rfl
theorem closed_FnExactDropClue : joinedFacts Try.checked.prog 11 Try.f11 Rows.fnExactDropClueSpec Rows.fnExactDropClueRow = true := by
  unfold joinedFacts
  repeat' (with_reducible refine and_mk ?_ ?_)
  all_goals (first | with_reducible exact factMayEnter | (rw [factLifts]; as_aux_lemma => kernel_rfl) | (rw [factMake]; as_aux_lemma => kernel_rfl) | (as_aux_lemma => kernel_rfl))

set_option maxRecDepth 100000 in
theorem lifted_FnExactDropClue (os : Os) (started : os.Started) (H : Type) (enc : TypeId × Value → H) :
    ReturnsInHanded {} Try.checked os 11 .any (Rows.fnExactDropClueSpec.pre6 enc Try.prog Try.f11 Rows.fnExactDropClueRow.domain false) (Rows.fnExactDropClueSpec.post enc Try.prog Try.f11 false true false false) := by
  refine returnsInHanded_of_change (C := Try.checked) own_FnExactDropClue started (by kernel_rfl) Try.func11
    (ChangeSpec.witness6 (enc := enc) (C := Try.checked) false ⟨#[], #[.agg #[.int .i64 0, .slice none 0 0], .int .i64 0], []⟩ 8 (by kernel_rfl) (by kernel_rfl) (by kernel_rfl) (by kernel_rfl)) ?_
  intro W base args ds gs before hval0 hW _ _
  have hval : ∀ (j : Nat) t v, Try.f11.params[j]? = some t → args[j]? = some v → Value.okWide Try.prog W .any base t v := hval0
  have hW' := hW
  obtain ⟨p, q, hA0, hV, hpq, hz, hn⟩ := hW
  have hA : DataW.TrodAll enc Try.prog W 0 (fun _ => true) true Try.f11.params.toList args.toList ds p := hA0
  rw [Try.params11] at hA hval
  obtain ⟨v0, v1, d0, d1, p0, p1, rfl, rfl, hps, h0, h1⟩ := trodAll_two hA
  obtain ⟨rfl, rfl⟩ := trodVars_none hV
  obtain ⟨x0, hx0, hl0, hb0⟩ := arg_pzl Try.underlying30 Try.underlying3 Try.underlying28 ⟨Try.underlying23, Try.underlying3, Try.underlying3, Try.underlying3, rfl, rfl, rfl, by kernel_rfl, by kernel_rfl, by kernel_rfl, by kernel_rfl⟩ (by kernel_rfl) ⟨rfl, by kernel_rfl, rfl, by kernel_rfl⟩ (hval 0 30 v0 rfl rfl) h0
  obtain ⟨x1, hx1, hl1, hb1⟩ := arg_int Try.underlying3 (hval 1 3 v1 rfl rfl) h1
  refine (law_calls (lawDropClue x0.1 x0.2 x1 hl0) (by simp only [SimL, and_true]; exact ⟨hx0, hx1⟩) rfl).mono fun e W' ⟨he, hm⟩ => ?_
  subst he
  exact ⟨_, rfl, law_post laid_FnExactDropClue hW' rfl rfl (bt := 4) rfl Try.underlying4 (by rw [Try.params11]; decide +kernel) hm⟩

theorem fnExactDropClue_holds : Rows.FnExactDropClueSaid :=
  OpenClaim.holds_of_wide 11 Try.f11 rfl rfl rfl rfl rfl rfl rfl ⟨rfl, rfl, rfl, rfl, rfl⟩ rfl rfl rfl rfl rfl (by kernel_rfl) Try.func11 closed_FnExactDropClue
    (of_decide_eq_true (by kernel_rfl)) (by unfold Func.isWrapper; first | (rw [if_pos (by decide +kernel)]; kernel_rfl) | (rw [if_neg (by decide +kernel)]; exact ⟨rfl, rfl⟩))
    (fun os started H enc _ => lifted_FnExactDropClue os started H enc)
end Go.Proofs.Ytpohldecllkjbaa
