/- The law FnExactParseHatPlan says true for every text: ParseHatPlan answers as its model does, and its answer is memory of its own. No condition but that the listed tables and the two errors of the library read as the program laid them. -/
import Derived.Test.YtfoecdaggmagaaaDoorRows
import Derived.Test.YtfoecdaggmagaaaDoorCards
import Derived.Test.YtfoecdaggmagaaaDoorTie
import Derived.Test.YtfoecdaggmagaaaDoorAmN
import Derived.Test.YtfoecdaggmagaaaDoorFcA
import Derived.Test.YtfoecdaggmagaaaDoorFcB
import Derived.Test.YtfoecdaggmagaaaDoorFcC
import Derived.Test.YtfoecdaggmagaaaDoorFd
import Derived.Test.YtfoecdaggmagaaaDoorLwParseHatPlan
import Derived.Test.YtfoecdaggmagaaaDoorGw
import Derived.SevenTiedAt
namespace Go.Proofs.YtfoecdaggmagaaaDoor
open Go.ChangeShapes Go.WideShapes Go.ChangeAt Go.RowKit Go.Am

theorem own_FnExactParseHatPlan : ownKnob Tryd.prog.godebug = none := by kernel_rfl
theorem laid_FnExactParseHatPlan : laidOutB Tryd.prog = true := by kernel_rfl
theorem closed_FnExactParseHatPlan : joinedFacts Tryd.checked.prog 3 Tryd.f3 Rows.fnExactParseHatPlanSpec Rows.fnExactParseHatPlanRow = true := by
  unfold joinedFacts
  repeat' (with_reducible refine and_mk ?_ ?_)
  all_goals (first | with_reducible exact factMayEnter | (rw [factLifts]; as_aux_lemma => kernel_rfl) | (rw [factMake]; as_aux_lemma => kernel_rfl) | (as_aux_lemma => kernel_rfl))

set_option maxRecDepth 100000 in
theorem lifted_FnExactParseHatPlan (os : Os) (started : os.Started) (H : Type) (enc : TypeId × Value → H) :
    ReturnsInHanded {} Tryd.checked os 3 .any (fun w args => (Rows.fnExactParseHatPlanSpec.pre enc Tryd.prog Tryd.f3 [] false w args ∧ laidMetH Tryd.prog Rows.fnExactParseHatPlanRow.laid w) ∧ sizedMet enc Tryd.prog Tryd.f3 (OpenSpec.ofChange Rows.fnExactParseHatPlanSpec) false w args) (Rows.fnExactParseHatPlanSpec.post enc Tryd.prog Tryd.f3 false true false false) := by
  refine returnsInHanded_of_change_and (C := Tryd.checked) (X := fun w _ => laidMetH Tryd.prog Rows.fnExactParseHatPlanRow.laid w) (fun _ _ _ hh h => h.of_heap hh) own_FnExactParseHatPlan started (by kernel_rfl) Tryd.func3
    (ChangeSpec.witness_shaped (enc := enc) (C := Tryd.checked) (os := os) (X := fun w _ => laidMetH Tryd.prog Rows.fnExactParseHatPlanRow.laid w) false (World.laidAll Tryd.prog os Rows.fnExactParseHatPlanRow.laid) #[.string ⟨#[]⟩] 8 (World.laidAll_os _ _ _)
      (door_shaped os _) (by kernel_rfl) (by kernel_rfl) (by kernel_rfl) (door_met os _)) ?_
  intro W base args ds gs before hval0 hW g1 g2 g3 g4
  have hval : ∀ (j : Nat) t v, Tryd.f3.params[j]? = some t → args[j]? = some v → Value.okWide Tryd.prog W .any base t v := hval0
  have hW' := hW
  obtain ⟨p, q, hA0, hV, hpq, hz, hn⟩ := hW
  have hA : DataW.TrodAll enc Tryd.prog W 0 (fun _ => true) true Tryd.f3.params.toList args.toList ds p := hA0
  rw [Tryd.params3] at hA hval
  obtain ⟨v0, d0, rfl, rfl, h0⟩ := trodAll_one hA
  obtain ⟨rfl, rfl⟩ := trodVars_none hV
  obtain ⟨x0, hx0, hl0⟩ := arg_string Tryd.underlying9 (hval 0 9 v0 rfl rfl) h0
  refine (law_calls (lawParseHatPlan x0) (by simp only [SimL, and_true]; exact hx0) rfl (goodW_of (by assumption))).mono fun e W' ⟨he, hm⟩ => ?_
  subst he
  exact ⟨_, rfl, law_post laid_FnExactParseHatPlan hW' rfl rfl (bt := 4) rfl Tryd.underlying4 (by rw [Tryd.params3]; decide +kernel) hm⟩

theorem row_FnExactParseHatPlan : Rows.FnExactParseHatPlanSaid :=
  OpenClaim.holds_of_wide 3 Tryd.f3 rfl rfl rfl rfl rfl rfl rfl ⟨rfl, rfl, rfl, rfl, rfl⟩ rfl rfl rfl rfl rfl (by kernel_rfl) Tryd.func3 closed_FnExactParseHatPlan
    (of_decide_eq_true (by kernel_rfl)) (by unfold Func.isWrapper; first | (rw [if_pos (by decide +kernel)]; kernel_rfl) | (rw [if_neg (by decide +kernel)]; exact ⟨rfl, rfl⟩))
    (fun os started H enc _ => lifted_FnExactParseHatPlan os started H enc)

theorem named_FnExactParseHatPlan : Tryd.prog.funcNamed Rows.fnExactParseHatPlanRow.func = some 3 := by kernel_rfl
theorem noStand_FnExactParseHatPlan : (Tryd.f3.params.toList.all fun t => !Tryd.prog.wantsStandIn t) = true := by kernel_rfl
theorem fnExactParseHatPlan_holds : Rows.FnExactParseHatPlanCardSaid :=
  Claim7.holds_tied_plain_at .later [] [.data, .data, .data, .data, .sentinel, .sentinel, .pinned] true (true, "182d8a3e33f25bdd5c613bd04fff56e0ea11c641fedde2a9cc1490a7b16bad16") true
    row_FnExactParseHatPlan (fun _ h => by cases h) (by kernel_rfl) (fun _ h => by cases h) fnExactParseHatPlan_row_tie rfl ⟨rfl, rfl⟩ (by kernel_rfl) rfl
    (fun f fn hf hfn => by
      obtain rfl : f = 3 := Option.some.inj (named_FnExactParseHatPlan.symm.trans hf) |>.symm
      obtain rfl : fn = Tryd.f3 := (Option.some.inj (Tryd.func3.symm.trans hfn)).symm
      exact ⟨by kernel_rfl, fun j t ht => by
        have hm : t ∈ Tryd.f3.params.toList := by
          have := Array.mem_of_getElem? ht
          simpa using this
        have h2 := List.all_eq_true.1 noStand_FnExactParseHatPlan t hm
        have h3 : Tryd.prog.wantsStandIn t = false := by simpa using h2
        exact h3⟩)
    (by kernel_rfl)
end Go.Proofs.YtfoecdaggmagaaaDoor
