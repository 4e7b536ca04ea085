/- The law FnGivingsRanked says true for all bytes. No condition. -/
import Derived.Test.YtbeflnnejofleaaRows
import Derived.Test.YtbeflnnejofleaaZt6
import Derived.Test.YtbeflnnejofleaaLwGivingsRanked
set_option linter.unusedSectionVars false
namespace Go.Proofs.Ytbeflnnejofleaa
open Go.ChangeShapes Go.WideShapes Go.ChangeAt Go.RowKit Go.Am

theorem own_FnGivingsRanked : ownKnob Try.prog.godebug = none := by kernel_rfl
theorem laid_FnGivingsRanked : laidOutB Try.prog = true := by kernel_rfl
theorem closed_FnGivingsRanked : joinedFacts Try.checked.prog 3 Try.f3 Rows.fnGivingsRankedSpec Rows.fnGivingsRankedRow = true := by
  haveI : CodeBlk := ⟨[]⟩
  unfold joinedFacts
  repeat' (with_reducible refine and_mk ?_ ?_)
  all_goals (first | with_reducible exact factMayEnter | (rw [factLifts]; as_aux_lemma => kernel_rfl) | (rw [factMake]; as_aux_lemma => kernel_rfl) | (as_aux_lemma => kernel_rfl))

set_option maxRecDepth 100000 in
theorem lifted_FnGivingsRanked (os : Os) (started : os.Started) (H : Type) (enc : TypeId × Value → H) :
    ReturnsInHanded {} Try.checked os 3 .any (Rows.fnGivingsRankedSpec.pre6 enc Try.prog Try.f3 Rows.fnGivingsRankedRow.domain false) (Rows.fnGivingsRankedSpec.post enc Try.prog Try.f3 false true false false) := by
  refine returnsInHanded_of_change (C := Try.checked) own_FnGivingsRanked started (by kernel_rfl) Try.func3
    (ChangeSpec.witness6 (enc := enc) (C := Try.checked) false ⟨#[], #[.slice none 0 0, .slice none 0 0], []⟩ 8 (by kernel_rfl) (by kernel_rfl) (by kernel_rfl) (by kernel_rfl)) ?_
  intro W base args ds gs before hval0 hW _ _
  have hval : ∀ (j : Nat) t v, Try.f3.params[j]? = some t → args[j]? = some v → Value.okWide Try.prog W .any base t v := hval0
  have hW' := hW
  obtain ⟨p, q, hA0, hV, hpq, hz, hn⟩ := hW
  have hA : DataW.TrodAll enc Try.prog W 0 (fun _ => true) true Try.f3.params.toList args.toList ds p := hA0
  rw [Try.params3] at hA hval
  obtain ⟨v0, v1, d0, d1, p0, p1, rfl, rfl, hps, h0, h1⟩ := trodAll_two hA
  obtain ⟨rfl, rfl⟩ := trodVars_none hV
  obtain ⟨x0, hx0, hl0⟩ := arg_bytes Try.underlying22 Try.underlying5 (by kernel_rfl) (hval 0 22 v0 rfl rfl) h0
  obtain ⟨x1, hx1, hl1⟩ := arg_bytes Try.underlying22 Try.underlying5 (by kernel_rfl) (hval 1 22 v1 rfl rfl) h1
  obtain ⟨I, hg, hb0, hb1⟩ := bytes_inst hx0 hx1
  letI : CodeBlk := I
  refine (law_calls (lawGivingsRanked hb0 hb1 (Nat.le_trans hl0 (by decide)) (Nat.le_trans hl1 (by decide))) (by simp only [SimL, SimV, and_true]) rfl hg).mono fun e W' ⟨he, hm⟩ => ?_
  subst he
  exact ⟨_, rfl, law_post laid_FnGivingsRanked hW' rfl rfl (bt := 4) rfl Try.underlying4 (by rw [Try.params3]; decide +kernel) hm⟩

theorem fnGivingsRanked_holds : Rows.FnGivingsRankedSaid :=
  OpenClaim.holds_of_wide 3 Try.f3 rfl rfl rfl rfl rfl rfl rfl ⟨rfl, rfl, rfl, rfl, rfl⟩ rfl rfl rfl rfl rfl (by kernel_rfl) Try.func3 closed_FnGivingsRanked
    (of_decide_eq_true (by kernel_rfl)) (by unfold Func.isWrapper; first | (rw [if_pos (by decide +kernel)]; kernel_rfl) | (rw [if_neg (by decide +kernel)]; exact ⟨rfl, rfl⟩))
    (fun os started H enc _ => lifted_FnGivingsRanked os started H enc)
end Go.Proofs.Ytbeflnnejofleaa
