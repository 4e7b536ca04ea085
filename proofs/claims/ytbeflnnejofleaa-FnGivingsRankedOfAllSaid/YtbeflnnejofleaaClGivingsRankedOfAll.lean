/- The law FnGivingsRankedOfAll says true for all lists and every number. No condition. -/
import Derived.Test.YtbeflnnejofleaaRows
import Derived.Carry
import Derived.Test.YtbeflnnejofleaaZs5
import Derived.Test.YtbeflnnejofleaaLwGivingsRankedOfAll
set_option linter.unusedSectionVars false
namespace Go.Proofs.Ytbeflnnejofleaa
open Go.ChangeShapes Go.WideShapes Go.ChangeAt Go.RowKit Go.Am

theorem own_FnGivingsRankedOfAll : ownKnob Try.prog.godebug = none := by kernel_rfl
theorem laid_FnGivingsRankedOfAll : laidOutB Try.prog = true := by kernel_rfl
theorem closed_FnGivingsRankedOfAll : joinedFacts Try.checked.prog 4 Try.f4 Rows.fnGivingsRankedOfAllSpec Rows.fnGivingsRankedOfAllRow = true := by
  haveI : CodeBlk := ⟨[]⟩
  unfold joinedFacts
  repeat' (with_reducible refine and_mk ?_ ?_)
  all_goals (first | with_reducible exact factMayEnter | (rw [factLifts]; as_aux_lemma => kernel_rfl) | (rw [factMake]; as_aux_lemma => kernel_rfl) | (as_aux_lemma => kernel_rfl))

set_option maxRecDepth 100000 in
theorem lifted_FnGivingsRankedOfAll (os : Os) (started : os.Started) (H : Type) (enc : TypeId × Value → H) :
    ReturnsInHanded {} Try.checked os 4 .any (Rows.fnGivingsRankedOfAllSpec.pre6 enc Try.prog Try.f4 Rows.fnGivingsRankedOfAllRow.domain false) (Rows.fnGivingsRankedOfAllSpec.post enc Try.prog Try.f4 false true false false) := by
  refine returnsInHanded_of_change (C := Try.checked) own_FnGivingsRankedOfAll started (by kernel_rfl) Try.func4
    (ChangeSpec.witness6 (enc := enc) (C := Try.checked) false ⟨#[], #[.slice none 0 0, .slice none 0 0, .slice none 0 0, .int .i64 0], []⟩ 8 (by kernel_rfl) (by kernel_rfl) (by kernel_rfl) (by kernel_rfl)) ?_
  letI : CodeBlk := ⟨[]⟩
  intro W base args ds gs before hval0 hW _ _
  have hval : ∀ (j : Nat) t v, Try.f4.params[j]? = some t → args[j]? = some v → Value.okWide Try.prog W .any base t v := hval0
  have hW' := hW
  obtain ⟨p, q, hA0, hV, hpq, hz, hn⟩ := hW
  have hA : DataW.TrodAll enc Try.prog W 0 (fun _ => true) true Try.f4.params.toList args.toList ds p := hA0
  rw [Try.params4] at hA hval
  obtain ⟨v0, v1, v2, v3, d0, d1, d2, d3, p0, p1, p2, p3, rfl, rfl, hps, h0, h1, h2, h3⟩ := trodAll_four hA
  obtain ⟨rfl, rfl⟩ := trodVars_none hV
  obtain ⟨x0, hx0, hl0, hb0⟩ := arg_ints Try.underlying24 Try.underlying3 (by kernel_rfl) (hval 0 24 v0 rfl rfl) h0
  obtain ⟨x1, hx1, hl1, hb1⟩ := arg_ints Try.underlying24 Try.underlying3 (by kernel_rfl) (hval 1 24 v1 rfl rfl) h1
  obtain ⟨x2, hx2, hl2, hb2⟩ := arg_ints Try.underlying24 Try.underlying3 (by kernel_rfl) (hval 2 24 v2 rfl rfl) h2
  obtain ⟨x3, hx3, hl3, hb3⟩ := arg_int Try.underlying3 (hval 3 3 v3 rfl rfl) h3
  refine (law_calls (lawGivingsRankedOfAll x0 x1 x2 x3) (by simp only [SimL, and_true]; exact ⟨hx0, hx1, hx2, hx3⟩) rfl).mono fun e W' ⟨he, hm⟩ => ?_
  subst he
  exact ⟨_, rfl, law_post laid_FnGivingsRankedOfAll hW' rfl rfl (bt := 4) rfl Try.underlying4 (by rw [Try.params4]; decide +kernel) hm⟩

theorem fnGivingsRankedOfAll_holds : Rows.FnGivingsRankedOfAllSaid :=
  OpenClaim.holds_of_wide 4 Try.f4 rfl rfl rfl rfl rfl rfl rfl ⟨rfl, rfl, rfl, rfl, rfl⟩ rfl rfl rfl rfl rfl (by kernel_rfl) Try.func4 closed_FnGivingsRankedOfAll
    (of_decide_eq_true (by kernel_rfl)) (by unfold Func.isWrapper; first | (rw [if_pos (by decide +kernel)]; kernel_rfl) | (rw [if_neg (by decide +kernel)]; exact ⟨rfl, rfl⟩))
    (fun os started H enc _ => lifted_FnGivingsRankedOfAll os started H enc)
end Go.Proofs.Ytbeflnnejofleaa
