/- The law FnExactMaskPlan says true for every plan and text: MaskPlan answers as its model does, leaves the plan alone, and its answer is memory of its own. No condition but that the listed tables of the library read as the program laid them. -/
import Derived.Test.YtenaaellhghfgaaDoorRows
import Derived.Test.YtenaaellhghfgaaDoorCards
import Derived.Test.YtenaaellhghfgaaDoorTie
import Derived.Test.YtenaaellhghfgaaDoorAmN
import Derived.Test.YtenaaellhghfgaaDoorAmHa
import Derived.Test.YtenaaellhghfgaaDoorFcA
import Derived.Test.YtenaaellhghfgaaDoorFcB
import Derived.Test.YtenaaellhghfgaaDoorFcC
import Derived.Test.YtenaaellhghfgaaDoorFd
import Derived.Test.YtenaaellhghfgaaDoorLwMaskPlan
import Derived.SevenTiedAt
namespace Go.Proofs.YtenaaellhghfgaaDoor
open Go.ChangeShapes Go.WideShapes Go.ChangeAt Go.RowKit Go.Am

theorem own_FnExactMaskPlan : ownKnob Tryd.prog.godebug = none := by kernel_rfl
theorem laid_FnExactMaskPlan : laidOutB Tryd.prog = true := by kernel_rfl
theorem closed_FnExactMaskPlan : joinedFacts Tryd.checked.prog 11 Tryd.f11 Rows.fnExactMaskPlanSpec Rows.fnExactMaskPlanRow = true := by
  unfold joinedFacts
  repeat' (with_reducible refine and_mk ?_ ?_)
  all_goals (first | with_reducible exact factMayEnter | (rw [factLifts]; as_aux_lemma => kernel_rfl) | (rw [factMake]; as_aux_lemma => kernel_rfl) | (as_aux_lemma => kernel_rfl))

set_option maxRecDepth 100000 in
theorem lifted_FnExactMaskPlan (os : Os) (started : os.Started) (H : Type) (enc : TypeId × Value → H) :
    ReturnsInHanded {} Tryd.checked os 11 .any (fun w args => (Rows.fnExactMaskPlanSpec.pre enc Tryd.prog Tryd.f11 [] false w args ∧ laidMetH Tryd.prog Rows.fnExactMaskPlanRow.laid w) ∧ sizedMet enc Tryd.prog Tryd.f11 (OpenSpec.ofChange Rows.fnExactMaskPlanSpec) false w args) (Rows.fnExactMaskPlanSpec.post enc Tryd.prog Tryd.f11 false true false false) := by
  refine returnsInHanded_of_change_and (C := Tryd.checked) (X := fun w _ => laidMetH Tryd.prog Rows.fnExactMaskPlanRow.laid w) (fun _ _ _ hh h => h.of_heap hh) own_FnExactMaskPlan started (by kernel_rfl) Tryd.func11
    (ChangeSpec.witness_shaped (enc := enc) (C := Tryd.checked) (os := os) (X := fun w _ => laidMetH Tryd.prog Rows.fnExactMaskPlanRow.laid w) false (World.laidAll Tryd.prog os Rows.fnExactMaskPlanRow.laid) #[.agg #[.int .i64 0, .slice none 0 0], .string ⟨#[]⟩] 8 (World.laidAll_os _ _ _)
      (door_shaped os _) (by kernel_rfl) (by kernel_rfl) (by kernel_rfl) (door_met os _)) ?_
  intro W base args ds gs before hval0 hW _ _ _ _
  have hval : ∀ (j : Nat) t v, Tryd.f11.params[j]? = some t → args[j]? = some v → Value.okWide Tryd.prog W .any base t v := hval0
  have hW' := hW
  obtain ⟨p, q, hA0, hV, hpq, hz, hn⟩ := hW
  have hA : DataW.TrodAll enc Tryd.prog W 0 (fun _ => true) true Tryd.f11.params.toList args.toList ds p := hA0
  rw [Tryd.params11] at hA hval
  obtain ⟨v0, v1, d0, d1, p0, p1, rfl, rfl, hps, h0, h1⟩ := trodAll_two hA
  obtain ⟨rfl, rfl⟩ := trodVars_none hV
  obtain ⟨x0, hx0, hl0, hb0⟩ := arg_pln Tryd.underlying24 Tryd.underlying3 Tryd.underlying22 Tryd.underlying9 (by kernel_rfl) (by kernel_rfl) ⟨rfl, by kernel_rfl, rfl, by kernel_rfl⟩ (hval 0 24 v0 rfl rfl) h0
  obtain ⟨x1, hx1, hl1⟩ := arg_string Tryd.underlying9 (hval 1 9 v1 rfl rfl) h1
  refine (law_calls (lawMaskPlan x0.1 x0.2 x1 hl0 hb0) (by simp only [SimL, and_true]; exact ⟨hx0, hx1⟩) rfl).mono fun e W' ⟨he, hm⟩ => ?_
  subst he
  exact ⟨_, rfl, law_post laid_FnExactMaskPlan hW' rfl rfl (bt := 4) rfl Tryd.underlying4 (by rw [Tryd.params11]; decide +kernel) hm⟩

theorem row_FnExactMaskPlan : Rows.FnExactMaskPlanSaid :=
  OpenClaim.holds_of_wide 11 Tryd.f11 rfl rfl rfl rfl rfl rfl rfl ⟨rfl, rfl, rfl, rfl, rfl⟩ rfl rfl rfl rfl rfl (by kernel_rfl) Tryd.func11 closed_FnExactMaskPlan
    (of_decide_eq_true (by kernel_rfl)) (by unfold Func.isWrapper; first | (rw [if_pos (by decide +kernel)]; kernel_rfl) | (rw [if_neg (by decide +kernel)]; exact ⟨rfl, rfl⟩))
    (fun os started H enc _ => lifted_FnExactMaskPlan os started H enc)

theorem named_FnExactMaskPlan : Tryd.prog.funcNamed Rows.fnExactMaskPlanRow.func = some 11 := by kernel_rfl
theorem noStand_FnExactMaskPlan : (Tryd.f11.params.toList.all fun t => !Tryd.prog.wantsStandIn t) = true := by kernel_rfl
theorem fnExactMaskPlan_holds : Rows.FnExactMaskPlanCardSaid :=
  Claim7.holds_tied_plain_at .later [] [.data, .data, .data] true (true, "a8dda62ec99669661eb048c57f22ac2de7644afe460e50bd9271f88a6ffb7780") false
    row_FnExactMaskPlan (fun _ h => by cases h) (by kernel_rfl) (fun _ h => by cases h) fnExactMaskPlan_row_tie rfl ⟨rfl, rfl⟩ (by kernel_rfl) rfl
    (fun f fn hf hfn => by
      obtain rfl : f = 11 := Option.some.inj (named_FnExactMaskPlan.symm.trans hf) |>.symm
      obtain rfl : fn = Tryd.f11 := (Option.some.inj (Tryd.func11.symm.trans hfn)).symm
      exact ⟨by kernel_rfl, fun j t ht => by
        have hm : t ∈ Tryd.f11.params.toList := by
          have := Array.mem_of_getElem? ht
          simpa using this
        have h2 := List.all_eq_true.1 noStand_FnExactMaskPlan t hm
        have h3 : Tryd.prog.wantsStandIn t = false := by simpa using h2
        exact h3⟩)
    (by kernel_rfl)
end Go.Proofs.YtenaaellhghfgaaDoor
