/- The law FnExactForbiddenOf says true for every text: ForbiddenOf answers as its model does, and its answer is memory of its own. No condition but what its card ties. -/
import Derived.Test.YtlmoopejihmhbaaDoorRows
import Derived.Test.YtlmoopejihmhbaaDoorCards
import Derived.Test.YtlmoopejihmhbaaDoorTie
import Derived.Test.YtlmoopejihmhbaaDoorAmN
import Derived.Test.YtlmoopejihmhbaaDoorFcA
import Derived.Test.YtlmoopejihmhbaaDoorFcB
import Derived.Test.YtlmoopejihmhbaaDoorFcC
import Derived.Test.YtlmoopejihmhbaaDoorFd
import Derived.Test.YtlmoopejihmhbaaDoorLwForbiddenOf
import Derived.SevenTiedAt
namespace Go.Proofs.YtlmoopejihmhbaaDoor
open Go.ChangeShapes Go.WideShapes Go.ChangeAt Go.RowKit Go.Am

theorem own_FnExactForbiddenOf : ownKnob Tryd.prog.godebug = none := by kernel_rfl
theorem laid_FnExactForbiddenOf : laidOutB Tryd.prog = true := by kernel_rfl
theorem closed_FnExactForbiddenOf : joinedFacts Tryd.checked.prog 10 Tryd.f10 Rows.fnExactForbiddenOfSpec Rows.fnExactForbiddenOfRow = true := by
  unfold joinedFacts
  repeat' (with_reducible refine and_mk ?_ ?_)
  all_goals (first | with_reducible exact factMayEnter | (rw [factLifts]; as_aux_lemma => kernel_rfl) | (rw [factMake]; as_aux_lemma => kernel_rfl) | (as_aux_lemma => kernel_rfl))

set_option maxRecDepth 100000 in
theorem lifted_FnExactForbiddenOf (os : Os) (started : os.Started) (H : Type) (enc : TypeId × Value → H) :
    ReturnsInHanded {} Tryd.checked os 10 .any (fun w args => (Rows.fnExactForbiddenOfSpec.pre enc Tryd.prog Tryd.f10 [] false w args ∧ laidMetH Tryd.prog Rows.fnExactForbiddenOfRow.laid w) ∧ sizedMet enc Tryd.prog Tryd.f10 (OpenSpec.ofChange Rows.fnExactForbiddenOfSpec) false w args) (Rows.fnExactForbiddenOfSpec.post enc Tryd.prog Tryd.f10 false true false false) := by
  refine returnsInHanded_of_change_and (C := Tryd.checked) (X := fun w _ => laidMetH Tryd.prog Rows.fnExactForbiddenOfRow.laid w) (fun _ _ _ hh h => h.of_heap hh) own_FnExactForbiddenOf started (by kernel_rfl) Tryd.func10
    (ChangeSpec.witness_shaped (enc := enc) (C := Tryd.checked) (os := os) (X := fun w _ => laidMetH Tryd.prog Rows.fnExactForbiddenOfRow.laid w) false (World.laidAll Tryd.prog os Rows.fnExactForbiddenOfRow.laid) #[.string ⟨#[]⟩] 8 (World.laidAll_os _ _ _)
      (door_shaped os _) (by kernel_rfl) (by kernel_rfl) (by kernel_rfl) (door_met os _)) ?_
  intro W base args ds gs before hval0 hW _ _ _ _
  have hval : ∀ (j : Nat) t v, Tryd.f10.params[j]? = some t → args[j]? = some v → Value.okWide Tryd.prog W .any base t v := hval0
  have hW' := hW
  obtain ⟨p, q, hA0, hV, hpq, hz, hn⟩ := hW
  have hA : DataW.TrodAll enc Tryd.prog W 0 (fun _ => true) true Tryd.f10.params.toList args.toList ds p := hA0
  rw [Tryd.params10] at hA hval
  obtain ⟨v0, d0, rfl, rfl, h0⟩ := trodAll_one hA
  obtain ⟨rfl, rfl⟩ := trodVars_none hV
  obtain ⟨x0, hx0, hl0⟩ := arg_string Tryd.underlying9 (hval 0 9 v0 rfl rfl) h0
  refine (law_calls (lawForbiddenOf x0) (by simp only [SimL, and_true]; exact hx0) rfl).mono fun e W' ⟨he, hm⟩ => ?_
  subst he
  exact ⟨_, rfl, law_post laid_FnExactForbiddenOf hW' rfl rfl (bt := 4) rfl Tryd.underlying4 (by rw [Tryd.params10]; decide +kernel) hm⟩

theorem row_FnExactForbiddenOf : Rows.FnExactForbiddenOfSaid :=
  OpenClaim.holds_of_wide 10 Tryd.f10 rfl rfl rfl rfl rfl rfl rfl ⟨rfl, rfl, rfl, rfl, rfl⟩ rfl rfl rfl rfl rfl (by kernel_rfl) Tryd.func10 closed_FnExactForbiddenOf
    (of_decide_eq_true (by kernel_rfl)) (by unfold Func.isWrapper; first | (rw [if_pos (by decide +kernel)]; kernel_rfl) | (rw [if_neg (by decide +kernel)]; exact ⟨rfl, rfl⟩))
    (fun os started H enc _ => lifted_FnExactForbiddenOf os started H enc)

theorem named_FnExactForbiddenOf : Tryd.prog.funcNamed Rows.fnExactForbiddenOfRow.func = some 10 := by kernel_rfl
theorem noStand_FnExactForbiddenOf : (Tryd.f10.params.toList.all fun t => !Tryd.prog.wantsStandIn t) = true := by kernel_rfl
theorem fnExactForbiddenOf_holds : Rows.FnExactForbiddenOfCardSaid :=
  Claim7.holds_tied_plain_at .later [] [.data, .pinned] true (true, "5cf660a5b1a82739375371e65a2f9c0bda544ce561aa6753e41a5459e97b5285") false
    row_FnExactForbiddenOf (fun _ h => by cases h) (by kernel_rfl) (fun _ h => by cases h) fnExactForbiddenOf_row_tie rfl ⟨rfl, rfl⟩ (by kernel_rfl) rfl
    (fun f fn hf hfn => by
      obtain rfl : f = 10 := Option.some.inj (named_FnExactForbiddenOf.symm.trans hf) |>.symm
      obtain rfl : fn = Tryd.f10 := (Option.some.inj (Tryd.func10.symm.trans hfn)).symm
      exact ⟨by kernel_rfl, fun j t ht => by
        have hm : t ∈ Tryd.f10.params.toList := by
          have := Array.mem_of_getElem? ht
          simpa using this
        have h2 := List.all_eq_true.1 noStand_FnExactForbiddenOf t hm
        have h3 : Tryd.prog.wantsStandIn t = false := by simpa using h2
        exact h3⟩)
    (by kernel_rfl)
end Go.Proofs.YtlmoopejihmhbaaDoor
