/- The law FnExactTurnedBoard says true for every text: TurnedBoard answers as its model does. No condition but what its card ties. -/
import Derived.Test.YtlmoopejihmhbaaDoorRows
import Derived.Test.YtlmoopejihmhbaaDoorCards
import Derived.Test.YtlmoopejihmhbaaDoorTie
import Derived.Test.YtlmoopejihmhbaaDoorAmN
import Derived.Test.YtlmoopejihmhbaaDoorFcA
import Derived.Test.YtlmoopejihmhbaaDoorFcB
import Derived.Test.YtlmoopejihmhbaaDoorFcC
import Derived.Test.YtlmoopejihmhbaaDoorFd
import Derived.Test.YtlmoopejihmhbaaDoorLwTurnedBoard
import Derived.SevenTiedAt
namespace Go.Proofs.YtlmoopejihmhbaaDoor
open Go.ChangeShapes Go.WideShapes Go.ChangeAt Go.RowKit Go.Am

theorem own_FnExactTurnedBoard : ownKnob Tryd.prog.godebug = none := by kernel_rfl
theorem laid_FnExactTurnedBoard : laidOutB Tryd.prog = true := by kernel_rfl
theorem closed_FnExactTurnedBoard : joinedFacts Tryd.checked.prog 6 Tryd.f6 Rows.fnExactTurnedBoardSpec Rows.fnExactTurnedBoardRow = true := by
  unfold joinedFacts
  repeat' (with_reducible refine and_mk ?_ ?_)
  all_goals (first | with_reducible exact factMayEnter | (rw [factLifts]; as_aux_lemma => kernel_rfl) | (rw [factMake]; as_aux_lemma => kernel_rfl) | (as_aux_lemma => kernel_rfl))

set_option maxRecDepth 100000 in
theorem lifted_FnExactTurnedBoard (os : Os) (started : os.Started) (H : Type) (enc : TypeId × Value → H) :
    ReturnsInHanded {} Tryd.checked os 6 .any (fun w args => (Rows.fnExactTurnedBoardSpec.pre enc Tryd.prog Tryd.f6 [] false w args ∧ laidMetH Tryd.prog Rows.fnExactTurnedBoardRow.laid w) ∧ sizedMet enc Tryd.prog Tryd.f6 (OpenSpec.ofChange Rows.fnExactTurnedBoardSpec) false w args) (Rows.fnExactTurnedBoardSpec.post enc Tryd.prog Tryd.f6 false true false false) := by
  refine returnsInHanded_of_change_and (C := Tryd.checked) (X := fun w _ => laidMetH Tryd.prog Rows.fnExactTurnedBoardRow.laid w) (fun _ _ _ hh h => h.of_heap hh) own_FnExactTurnedBoard started (by kernel_rfl) Tryd.func6
    (ChangeSpec.witness_shaped (enc := enc) (C := Tryd.checked) (os := os) (X := fun w _ => laidMetH Tryd.prog Rows.fnExactTurnedBoardRow.laid w) false (World.laidAll Tryd.prog os Rows.fnExactTurnedBoardRow.laid) #[.string ⟨#[]⟩] 8 (World.laidAll_os _ _ _)
      (door_shaped os _) (by kernel_rfl) (by kernel_rfl) (by kernel_rfl) (door_met os _)) ?_
  intro W base args ds gs before hval0 hW _ _ _ _
  have hval : ∀ (j : Nat) t v, Tryd.f6.params[j]? = some t → args[j]? = some v → Value.okWide Tryd.prog W .any base t v := hval0
  have hW' := hW
  obtain ⟨p, q, hA0, hV, hpq, hz, hn⟩ := hW
  have hA : DataW.TrodAll enc Tryd.prog W 0 (fun _ => true) true Tryd.f6.params.toList args.toList ds p := hA0
  rw [Tryd.params6] at hA hval
  obtain ⟨v0, d0, rfl, rfl, h0⟩ := trodAll_one hA
  obtain ⟨rfl, rfl⟩ := trodVars_none hV
  obtain ⟨x0, hx0, hl0⟩ := arg_string Tryd.underlying9 (hval 0 9 v0 rfl rfl) h0
  refine (law_calls (lawTurnedBoard x0) (by simp only [SimL, and_true]; exact hx0) rfl).mono fun e W' ⟨he, hm⟩ => ?_
  subst he
  exact ⟨_, rfl, law_post laid_FnExactTurnedBoard hW' rfl rfl (bt := 4) rfl Tryd.underlying4 (by rw [Tryd.params6]; decide +kernel) hm⟩

theorem row_FnExactTurnedBoard : Rows.FnExactTurnedBoardSaid :=
  OpenClaim.holds_of_wide 6 Tryd.f6 rfl rfl rfl rfl rfl rfl rfl ⟨rfl, rfl, rfl, rfl, rfl⟩ rfl rfl rfl rfl rfl (by kernel_rfl) Tryd.func6 closed_FnExactTurnedBoard
    (of_decide_eq_true (by kernel_rfl)) (by unfold Func.isWrapper; first | (rw [if_pos (by decide +kernel)]; kernel_rfl) | (rw [if_neg (by decide +kernel)]; exact ⟨rfl, rfl⟩))
    (fun os started H enc _ => lifted_FnExactTurnedBoard os started H enc)

theorem named_FnExactTurnedBoard : Tryd.prog.funcNamed Rows.fnExactTurnedBoardRow.func = some 6 := by kernel_rfl
theorem noStand_FnExactTurnedBoard : (Tryd.f6.params.toList.all fun t => !Tryd.prog.wantsStandIn t) = true := by kernel_rfl
theorem fnExactTurnedBoard_holds : Rows.FnExactTurnedBoardCardSaid :=
  Claim7.holds_tied_plain_at .later [] [.data, .pinned] true (true, "5cf660a5b1a82739375371e65a2f9c0bda544ce561aa6753e41a5459e97b5285") false
    row_FnExactTurnedBoard (fun _ h => by cases h) (by kernel_rfl) (fun _ h => by cases h) fnExactTurnedBoard_row_tie rfl ⟨rfl, rfl⟩ (by kernel_rfl) rfl
    (fun f fn hf hfn => by
      obtain rfl : f = 6 := Option.some.inj (named_FnExactTurnedBoard.symm.trans hf) |>.symm
      obtain rfl : fn = Tryd.f6 := (Option.some.inj (Tryd.func6.symm.trans hfn)).symm
      exact ⟨by kernel_rfl, fun j t ht => by
        have hm : t ∈ Tryd.f6.params.toList := by
          have := Array.mem_of_getElem? ht
          simpa using this
        have h2 := List.all_eq_true.1 noStand_FnExactTurnedBoard t hm
        have h3 : Tryd.prog.wantsStandIn t = false := by simpa using h2
        exact h3⟩)
    (by kernel_rfl)
end Go.Proofs.YtlmoopejihmhbaaDoor
