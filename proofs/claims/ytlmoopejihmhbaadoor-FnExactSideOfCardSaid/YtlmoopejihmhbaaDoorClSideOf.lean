/- The law FnExactSideOf says true for every text: SideOf answers as its model does. No condition but what its card ties. -/
import Derived.Test.YtlmoopejihmhbaaDoorRows
import Derived.Test.YtlmoopejihmhbaaDoorCards
import Derived.Test.YtlmoopejihmhbaaDoorTie
import Derived.Test.YtlmoopejihmhbaaDoorAmN
import Derived.Test.YtlmoopejihmhbaaDoorFcA
import Derived.Test.YtlmoopejihmhbaaDoorFcB
import Derived.Test.YtlmoopejihmhbaaDoorFcC
import Derived.Test.YtlmoopejihmhbaaDoorFd
import Derived.Test.YtlmoopejihmhbaaDoorLwSideOf
import Derived.SevenTiedAt
namespace Go.Proofs.YtlmoopejihmhbaaDoor
open Go.ChangeShapes Go.WideShapes Go.ChangeAt Go.RowKit Go.Am

theorem own_FnExactSideOf : ownKnob Tryd.prog.godebug = none := by kernel_rfl
theorem laid_FnExactSideOf : laidOutB Tryd.prog = true := by kernel_rfl
theorem closed_FnExactSideOf : joinedFacts Tryd.checked.prog 4 Tryd.f4 Rows.fnExactSideOfSpec Rows.fnExactSideOfRow = true := by
  unfold joinedFacts
  repeat' (with_reducible refine and_mk ?_ ?_)
  all_goals (first | with_reducible exact factMayEnter | (rw [factLifts]; as_aux_lemma => kernel_rfl) | (rw [factMake]; as_aux_lemma => kernel_rfl) | (as_aux_lemma => kernel_rfl))

set_option maxRecDepth 100000 in
theorem lifted_FnExactSideOf (os : Os) (started : os.Started) (H : Type) (enc : TypeId × Value → H) :
    ReturnsInHanded {} Tryd.checked os 4 .any (fun w args => (Rows.fnExactSideOfSpec.pre enc Tryd.prog Tryd.f4 [] false w args ∧ laidMetH Tryd.prog Rows.fnExactSideOfRow.laid w) ∧ sizedMet enc Tryd.prog Tryd.f4 (OpenSpec.ofChange Rows.fnExactSideOfSpec) false w args) (Rows.fnExactSideOfSpec.post enc Tryd.prog Tryd.f4 false true false false) := by
  refine returnsInHanded_of_change_and (C := Tryd.checked) (X := fun w _ => laidMetH Tryd.prog Rows.fnExactSideOfRow.laid w) (fun _ _ _ hh h => h.of_heap hh) own_FnExactSideOf started (by kernel_rfl) Tryd.func4
    (ChangeSpec.witness_shaped (enc := enc) (C := Tryd.checked) (os := os) (X := fun w _ => laidMetH Tryd.prog Rows.fnExactSideOfRow.laid w) false (World.laidAll Tryd.prog os Rows.fnExactSideOfRow.laid) #[.string ⟨#[]⟩] 8 (World.laidAll_os _ _ _)
      (door_shaped os _) (by kernel_rfl) (by kernel_rfl) (by kernel_rfl) (door_met os _)) ?_
  intro W base args ds gs before hval0 hW _ _ _ _
  have hval : ∀ (j : Nat) t v, Tryd.f4.params[j]? = some t → args[j]? = some v → Value.okWide Tryd.prog W .any base t v := hval0
  have hW' := hW
  obtain ⟨p, q, hA0, hV, hpq, hz, hn⟩ := hW
  have hA : DataW.TrodAll enc Tryd.prog W 0 (fun _ => true) true Tryd.f4.params.toList args.toList ds p := hA0
  rw [Tryd.params4] at hA hval
  obtain ⟨v0, d0, rfl, rfl, h0⟩ := trodAll_one hA
  obtain ⟨rfl, rfl⟩ := trodVars_none hV
  obtain ⟨x0, hx0, hl0⟩ := arg_string Tryd.underlying9 (hval 0 9 v0 rfl rfl) h0
  refine (law_calls (lawSideOf x0) (by simp only [SimL, and_true]; exact hx0) rfl).mono fun e W' ⟨he, hm⟩ => ?_
  subst he
  exact ⟨_, rfl, law_post laid_FnExactSideOf hW' rfl rfl (bt := 4) rfl Tryd.underlying4 (by rw [Tryd.params4]; decide +kernel) hm⟩

theorem row_FnExactSideOf : Rows.FnExactSideOfSaid :=
  OpenClaim.holds_of_wide 4 Tryd.f4 rfl rfl rfl rfl rfl rfl rfl ⟨rfl, rfl, rfl, rfl, rfl⟩ rfl rfl rfl rfl rfl (by kernel_rfl) Tryd.func4 closed_FnExactSideOf
    (of_decide_eq_true (by kernel_rfl)) (by unfold Func.isWrapper; first | (rw [if_pos (by decide +kernel)]; kernel_rfl) | (rw [if_neg (by decide +kernel)]; exact ⟨rfl, rfl⟩))
    (fun os started H enc _ => lifted_FnExactSideOf os started H enc)

theorem named_FnExactSideOf : Tryd.prog.funcNamed Rows.fnExactSideOfRow.func = some 4 := by kernel_rfl
theorem noStand_FnExactSideOf : (Tryd.f4.params.toList.all fun t => !Tryd.prog.wantsStandIn t) = true := by kernel_rfl
theorem fnExactSideOf_holds : Rows.FnExactSideOfCardSaid :=
  Claim7.holds_tied_plain_at .later [] [.data, .pinned] true (true, "5cf660a5b1a82739375371e65a2f9c0bda544ce561aa6753e41a5459e97b5285") false
    row_FnExactSideOf (fun _ h => by cases h) (by kernel_rfl) (fun _ h => by cases h) fnExactSideOf_row_tie rfl ⟨rfl, rfl⟩ (by kernel_rfl) rfl
    (fun f fn hf hfn => by
      obtain rfl : f = 4 := Option.some.inj (named_FnExactSideOf.symm.trans hf) |>.symm
      obtain rfl : fn = Tryd.f4 := (Option.some.inj (Tryd.func4.symm.trans hfn)).symm
      exact ⟨by kernel_rfl, fun j t ht => by
        have hm : t ∈ Tryd.f4.params.toList := by
          have := Array.mem_of_getElem? ht
          simpa using this
        have h2 := List.all_eq_true.1 noStand_FnExactSideOf t hm
        have h3 : Tryd.prog.wantsStandIn t = false := by simpa using h2
        exact h3⟩)
    (by kernel_rfl)
end Go.Proofs.YtlmoopejihmhbaaDoor
