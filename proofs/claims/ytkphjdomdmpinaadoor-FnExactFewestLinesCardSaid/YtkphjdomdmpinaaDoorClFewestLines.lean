/- The law FnExactFewestLines says true for every text: FewestLines answers as its model does, both lists and whether there are any, and its answers are memory of its own, each; no condition but what its card ties. -/
import Derived.Test.YtkphjdomdmpinaaDoorRows
import Derived.Test.YtkphjdomdmpinaaDoorCards
import Derived.Test.YtkphjdomdmpinaaDoorTie
import Derived.Test.YtkphjdomdmpinaaDoorZs4
import Derived.Test.YtkphjdomdmpinaaDoorLwFewestLines
import Derived.SevenTiedAt
namespace Go.Proofs.YtkphjdomdmpinaaDoor
open Go.ChangeShapes Go.WideShapes Go.ChangeAt Go.RowKit Go.Am

theorem own_FnExactFewestLines : ownKnob Tryd.prog.godebug = none := by kernel_rfl
theorem laid_FnExactFewestLines : laidOutB Tryd.prog = true := by kernel_rfl
theorem closed_FnExactFewestLines : joinedFacts Tryd.checked.prog 8 Tryd.f8 Rows.fnExactFewestLinesSpec Rows.fnExactFewestLinesRow = true := by
  unfold joinedFacts
  repeat' (with_reducible refine and_mk ?_ ?_)
  all_goals (first | with_reducible exact factMayEnter | (rw [factLifts]; as_aux_lemma => kernel_rfl) | (rw [factMake]; as_aux_lemma => kernel_rfl) | (as_aux_lemma => kernel_rfl))

set_option maxRecDepth 100000 in
theorem lifted_FnExactFewestLines (os : Os) (started : os.Started) (H : Type) (enc : TypeId × Value → H) :
    ReturnsInHanded {} Tryd.checked os 8 .any (fun w args => (Rows.fnExactFewestLinesSpec.pre enc Tryd.prog Tryd.f8 [] false w args ∧ laidMetH Tryd.prog Rows.fnExactFewestLinesRow.laid w) ∧ sizedMet enc Tryd.prog Tryd.f8 (OpenSpec.ofChange Rows.fnExactFewestLinesSpec) false w args) (Rows.fnExactFewestLinesSpec.post enc Tryd.prog Tryd.f8 false true false false) := by
  refine returnsInHanded_of_change_and (C := Tryd.checked) (X := fun w _ => laidMetH Tryd.prog Rows.fnExactFewestLinesRow.laid w) (fun _ _ _ hh h => h.of_heap hh) own_FnExactFewestLines started (by kernel_rfl) Tryd.func8
    (ChangeSpec.witness_shaped (enc := enc) (C := Tryd.checked) (os := os) (X := fun w _ => laidMetH Tryd.prog Rows.fnExactFewestLinesRow.laid w) false (World.laidAll Tryd.prog os Rows.fnExactFewestLinesRow.laid) #[.string ⟨#[]⟩] 8 (World.laidAll_os _ _ _)
      (door_shaped os _) (by kernel_rfl) (by kernel_rfl) (by kernel_rfl) (door_met os _)) ?_
  intro W base args ds gs before hval0 hW _ _ _ _
  have hval : ∀ (j : Nat) t v, Tryd.f8.params[j]? = some t → args[j]? = some v → Value.okWide Tryd.prog W .any base t v := hval0
  have hW' := hW
  obtain ⟨p, q, hA0, hV, hpq, hz, hn⟩ := hW
  have hA : DataW.TrodAll enc Tryd.prog W 0 (fun _ => true) true Tryd.f8.params.toList args.toList ds p := hA0
  rw [Tryd.params8] at hA hval
  obtain ⟨v0, d0, rfl, rfl, h0⟩ := trodAll_one hA
  obtain ⟨rfl, rfl⟩ := trodVars_none hV
  obtain ⟨x0, hx0, hl0⟩ := arg_string Tryd.underlying9 (hval 0 9 v0 rfl rfl) h0
  refine (law_calls (lawFewestLines x0) (by simp only [SimL, and_true]; exact hx0) rfl).mono fun e W' ⟨he, hm⟩ => ?_
  subst he
  exact ⟨_, rfl, law_post laid_FnExactFewestLines hW' rfl rfl (bt := 4) rfl Tryd.underlying4 (by rw [Tryd.params8]; decide +kernel) hm⟩

theorem row_FnExactFewestLines : Rows.FnExactFewestLinesSaid :=
  OpenClaim.holds_of_wide 8 Tryd.f8 rfl rfl rfl rfl rfl rfl rfl ⟨rfl, rfl, rfl, rfl, rfl⟩ rfl rfl rfl rfl rfl (by kernel_rfl) Tryd.func8 closed_FnExactFewestLines
    (of_decide_eq_true (by kernel_rfl)) (by unfold Func.isWrapper; first | (rw [if_pos (by decide +kernel)]; kernel_rfl) | (rw [if_neg (by decide +kernel)]; exact ⟨rfl, rfl⟩))
    (fun os started H enc _ => lifted_FnExactFewestLines os started H enc)

theorem named_FnExactFewestLines : Tryd.prog.funcNamed Rows.fnExactFewestLinesRow.func = some 8 := by kernel_rfl
theorem noStand_FnExactFewestLines : (Tryd.f8.params.toList.all fun t => !Tryd.prog.wantsStandIn t) = true := by kernel_rfl
theorem fnExactFewestLines_holds : Rows.FnExactFewestLinesCardSaid :=
  Claim7.holds_tied_plain_at .later [] [.data, .pinned] true (true, "744dce49894b89aae0c022e2e22a464b63b662239d3aa05efd5b3242774261af") true
    row_FnExactFewestLines (fun _ h => by cases h) (by kernel_rfl) (fun _ h => by cases h) fnExactFewestLines_row_tie rfl ⟨rfl, rfl⟩ (by kernel_rfl) rfl
    (fun f fn hf hfn => by
      obtain rfl : f = 8 := Option.some.inj (named_FnExactFewestLines.symm.trans hf) |>.symm
      obtain rfl : fn = Tryd.f8 := (Option.some.inj (Tryd.func8.symm.trans hfn)).symm
      exact ⟨by kernel_rfl, fun j t ht => by
        have hm : t ∈ Tryd.f8.params.toList := by
          have := Array.mem_of_getElem? ht
          simpa using this
        have h2 := List.all_eq_true.1 noStand_FnExactFewestLines t hm
        have h3 : Tryd.prog.wantsStandIn t = false := by simpa using h2
        exact h3⟩)
    (by kernel_rfl)
end Go.Proofs.YtkphjdomdmpinaaDoor
