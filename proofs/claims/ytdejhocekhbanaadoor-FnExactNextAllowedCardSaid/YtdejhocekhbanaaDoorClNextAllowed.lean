/- The law FnExactNextAllowed says true for every text and every list: NextAllowed answers as its model does, leaves the list alone, and its answer is memory of its own. No condition but what its card ties. -/
import Derived.Test.YtdejhocekhbanaaDoorRows
import Derived.Test.YtdejhocekhbanaaDoorCards
import Derived.Test.YtdejhocekhbanaaDoorTie
import Derived.Test.YtdejhocekhbanaaDoorAmN
import Derived.Test.YtdejhocekhbanaaDoorFcA
import Derived.Test.YtdejhocekhbanaaDoorFcB
import Derived.Test.YtdejhocekhbanaaDoorFcC
import Derived.Test.YtdejhocekhbanaaDoorFd
import Derived.Test.YtdejhocekhbanaaDoorLwNextAllowed
import Derived.SevenTiedAt
namespace Go.Proofs.YtdejhocekhbanaaDoor
open Go.ChangeShapes Go.WideShapes Go.ChangeAt Go.RowKit Go.Am

theorem own_FnExactNextAllowed : ownKnob Tryd.prog.godebug = none := by kernel_rfl
theorem laid_FnExactNextAllowed : laidOutB Tryd.prog = true := by kernel_rfl
theorem closed_FnExactNextAllowed : joinedFacts Tryd.checked.prog 4 Tryd.f4 Rows.fnExactNextAllowedSpec Rows.fnExactNextAllowedRow = true := by
  unfold joinedFacts
  repeat' (with_reducible refine and_mk ?_ ?_)
  all_goals (first | with_reducible exact factMayEnter | (rw [factLifts]; as_aux_lemma => kernel_rfl) | (rw [factMake]; as_aux_lemma => kernel_rfl) | (as_aux_lemma => kernel_rfl))

set_option maxRecDepth 100000 in
theorem lifted_FnExactNextAllowed (os : Os) (started : os.Started) (H : Type) (enc : TypeId × Value → H) :
    ReturnsInHanded {} Tryd.checked os 4 .any (fun w args => (Rows.fnExactNextAllowedSpec.pre enc Tryd.prog Tryd.f4 [] false w args ∧ laidMetH Tryd.prog Rows.fnExactNextAllowedRow.laid w) ∧ sizedMet enc Tryd.prog Tryd.f4 (OpenSpec.ofChange Rows.fnExactNextAllowedSpec) false w args) (Rows.fnExactNextAllowedSpec.post enc Tryd.prog Tryd.f4 false true false false) := by
  refine returnsInHanded_of_change_and (C := Tryd.checked) (X := fun w _ => laidMetH Tryd.prog Rows.fnExactNextAllowedRow.laid w) (fun _ _ _ hh h => h.of_heap hh) own_FnExactNextAllowed started (by kernel_rfl) Tryd.func4
    (ChangeSpec.witness_shaped (enc := enc) (C := Tryd.checked) (os := os) (X := fun w _ => laidMetH Tryd.prog Rows.fnExactNextAllowedRow.laid w) false (World.laidAll Tryd.prog os Rows.fnExactNextAllowedRow.laid) #[.string ⟨#[]⟩, .slice none 0 0] 8 (World.laidAll_os _ _ _)
      (door_shaped os _) (by kernel_rfl) (by kernel_rfl) (by kernel_rfl) (door_met os _)) ?_
  intro W base args ds gs before hval0 hW _ _ _ _
  have hval : ∀ (j : Nat) t v, Tryd.f4.params[j]? = some t → args[j]? = some v → Value.okWide Tryd.prog W .any base t v := hval0
  have hW' := hW
  obtain ⟨p, q, hA0, hV, hpq, hz, hn⟩ := hW
  have hA : DataW.TrodAll enc Tryd.prog W 0 (fun _ => true) true Tryd.f4.params.toList args.toList ds p := hA0
  rw [Tryd.params4] at hA hval
  obtain ⟨v0, v1, d0, d1, p0, p1, rfl, rfl, hps, h0, h1⟩ := trodAll_two hA
  obtain ⟨rfl, rfl⟩ := trodVars_none hV
  obtain ⟨x0, hx0, hl0⟩ := arg_string Tryd.underlying9 (hval 0 9 v0 rfl rfl) h0
  obtain ⟨x1, hx1, hl1, hb1⟩ := arg_ints Tryd.underlying22 Tryd.underlying3 (by kernel_rfl) (hval 1 22 v1 rfl rfl) h1
  refine (law_calls (lawNextAllowed x0 x1) (by simp only [SimL, and_true]; exact ⟨hx0, hx1⟩) rfl).mono fun e W' ⟨he, hm⟩ => ?_
  subst he
  exact ⟨_, rfl, law_post laid_FnExactNextAllowed hW' rfl rfl (bt := 4) rfl Tryd.underlying4 (by rw [Tryd.params4]; decide +kernel) hm⟩

theorem row_FnExactNextAllowed : Rows.FnExactNextAllowedSaid :=
  OpenClaim.holds_of_wide 4 Tryd.f4 rfl rfl rfl rfl rfl rfl rfl ⟨rfl, rfl, rfl, rfl, rfl⟩ rfl rfl rfl rfl rfl (by kernel_rfl) Tryd.func4 closed_FnExactNextAllowed
    (of_decide_eq_true (by kernel_rfl)) (by unfold Func.isWrapper; first | (rw [if_pos (by decide +kernel)]; kernel_rfl) | (rw [if_neg (by decide +kernel)]; exact ⟨rfl, rfl⟩))
    (fun os started H enc _ => lifted_FnExactNextAllowed os started H enc)

theorem named_FnExactNextAllowed : Tryd.prog.funcNamed Rows.fnExactNextAllowedRow.func = some 4 := by kernel_rfl
theorem noStand_FnExactNextAllowed : (Tryd.f4.params.toList.all fun t => !Tryd.prog.wantsStandIn t) = true := by kernel_rfl
theorem fnExactNextAllowed_holds : Rows.FnExactNextAllowedCardSaid :=
  Claim7.holds_tied_plain_at .later [] [.data, .pinned] true (true, "92079e770dbf66465df7fcc8065feb0560e9fabe7557827290468d885b52c04c") false
    row_FnExactNextAllowed (fun _ h => by cases h) (by kernel_rfl) (fun _ h => by cases h) fnExactNextAllowed_row_tie rfl ⟨rfl, rfl⟩ (by kernel_rfl) rfl
    (fun f fn hf hfn => by
      obtain rfl : f = 4 := Option.some.inj (named_FnExactNextAllowed.symm.trans hf) |>.symm
      obtain rfl : fn = Tryd.f4 := (Option.some.inj (Tryd.func4.symm.trans hfn)).symm
      exact ⟨by kernel_rfl, fun j t ht => by
        have hm : t ∈ Tryd.f4.params.toList := by
          have := Array.mem_of_getElem? ht
          simpa using this
        have h2 := List.all_eq_true.1 noStand_FnExactNextAllowed t hm
        have h3 : Tryd.prog.wantsStandIn t = false := by simpa using h2
        exact h3⟩)
    (by kernel_rfl)
end Go.Proofs.YtdejhocekhbanaaDoor
