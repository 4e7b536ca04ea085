/- The law FnExactJoinBoards says true for any two texts: JoinBoards answers as its model does. No condition but what its card ties. -/
import Derived.Test.YtlmoopejihmhbaaDoorRows
import Derived.Test.YtlmoopejihmhbaaDoorCards
import Derived.Test.YtlmoopejihmhbaaDoorTie
import Derived.Test.YtlmoopejihmhbaaDoorAmN
import Derived.Test.YtlmoopejihmhbaaDoorFcA
import Derived.Test.YtlmoopejihmhbaaDoorFcB
import Derived.Test.YtlmoopejihmhbaaDoorFcC
import Derived.Test.YtlmoopejihmhbaaDoorFd
import Derived.Test.YtlmoopejihmhbaaDoorLwJoinBoards
import Derived.SevenTiedAt
namespace Go.Proofs.YtlmoopejihmhbaaDoor
open Go.ChangeShapes Go.WideShapes Go.ChangeAt Go.RowKit Go.Am

theorem own_FnExactJoinBoards : ownKnob Tryd.prog.godebug = none := by kernel_rfl
theorem laid_FnExactJoinBoards : laidOutB Tryd.prog = true := by kernel_rfl
theorem closed_FnExactJoinBoards : joinedFacts Tryd.checked.prog 9 Tryd.f9 Rows.fnExactJoinBoardsSpec Rows.fnExactJoinBoardsRow = true := by
  unfold joinedFacts
  repeat' (with_reducible refine and_mk ?_ ?_)
  all_goals (first | with_reducible exact factMayEnter | (rw [factLifts]; as_aux_lemma => kernel_rfl) | (rw [factMake]; as_aux_lemma => kernel_rfl) | (as_aux_lemma => kernel_rfl))

set_option maxRecDepth 100000 in
theorem lifted_FnExactJoinBoards (os : Os) (started : os.Started) (H : Type) (enc : TypeId × Value → H) :
    ReturnsInHanded {} Tryd.checked os 9 .any (fun w args => (Rows.fnExactJoinBoardsSpec.pre enc Tryd.prog Tryd.f9 [] false w args ∧ laidMetH Tryd.prog Rows.fnExactJoinBoardsRow.laid w) ∧ sizedMet enc Tryd.prog Tryd.f9 (OpenSpec.ofChange Rows.fnExactJoinBoardsSpec) false w args) (Rows.fnExactJoinBoardsSpec.post enc Tryd.prog Tryd.f9 false true false false) := by
  refine returnsInHanded_of_change_and (C := Tryd.checked) (X := fun w _ => laidMetH Tryd.prog Rows.fnExactJoinBoardsRow.laid w) (fun _ _ _ hh h => h.of_heap hh) own_FnExactJoinBoards started (by kernel_rfl) Tryd.func9
    (ChangeSpec.witness_shaped (enc := enc) (C := Tryd.checked) (os := os) (X := fun w _ => laidMetH Tryd.prog Rows.fnExactJoinBoardsRow.laid w) false (World.laidAll Tryd.prog os Rows.fnExactJoinBoardsRow.laid) #[.string ⟨#[]⟩, .string ⟨#[]⟩] 8 (World.laidAll_os _ _ _)
      (door_shaped os _) (by kernel_rfl) (by kernel_rfl) (by kernel_rfl) (door_met os _)) ?_
  intro W base args ds gs before hval0 hW _ _ _ _
  have hval : ∀ (j : Nat) t v, Tryd.f9.params[j]? = some t → args[j]? = some v → Value.okWide Tryd.prog W .any base t v := hval0
  have hW' := hW
  obtain ⟨p, q, hA0, hV, hpq, hz, hn⟩ := hW
  have hA : DataW.TrodAll enc Tryd.prog W 0 (fun _ => true) true Tryd.f9.params.toList args.toList ds p := hA0
  rw [Tryd.params9] at hA hval
  obtain ⟨v0, v1, d0, d1, p0, p1, rfl, rfl, hps, h0, h1⟩ := trodAll_two hA
  obtain ⟨rfl, rfl⟩ := trodVars_none hV
  obtain ⟨x0, hx0, hl0⟩ := arg_string Tryd.underlying9 (hval 0 9 v0 rfl rfl) h0
  obtain ⟨x1, hx1, hl1⟩ := arg_string Tryd.underlying9 (hval 1 9 v1 rfl rfl) h1
  refine (law_calls (lawJoinBoards x0 x1) (by simp only [SimL, and_true]; exact ⟨hx0, hx1⟩) rfl).mono fun e W' ⟨he, hm⟩ => ?_
  subst he
  exact ⟨_, rfl, law_post laid_FnExactJoinBoards hW' rfl rfl (bt := 4) rfl Tryd.underlying4 (by rw [Tryd.params9]; decide +kernel) hm⟩

theorem row_FnExactJoinBoards : Rows.FnExactJoinBoardsSaid :=
  OpenClaim.holds_of_wide 9 Tryd.f9 rfl rfl rfl rfl rfl rfl rfl ⟨rfl, rfl, rfl, rfl, rfl⟩ rfl rfl rfl rfl rfl (by kernel_rfl) Tryd.func9 closed_FnExactJoinBoards
    (of_decide_eq_true (by kernel_rfl)) (by unfold Func.isWrapper; first | (rw [if_pos (by decide +kernel)]; kernel_rfl) | (rw [if_neg (by decide +kernel)]; exact ⟨rfl, rfl⟩))
    (fun os started H enc _ => lifted_FnExactJoinBoards os started H enc)

theorem named_FnExactJoinBoards : Tryd.prog.funcNamed Rows.fnExactJoinBoardsRow.func = some 9 := by kernel_rfl
theorem noStand_FnExactJoinBoards : (Tryd.f9.params.toList.all fun t => !Tryd.prog.wantsStandIn t) = true := by kernel_rfl
theorem fnExactJoinBoards_holds : Rows.FnExactJoinBoardsCardSaid :=
  Claim7.holds_tied_plain_at .later [] [.data, .pinned] true (true, "5cf660a5b1a82739375371e65a2f9c0bda544ce561aa6753e41a5459e97b5285") false
    row_FnExactJoinBoards (fun _ h => by cases h) (by kernel_rfl) (fun _ h => by cases h) fnExactJoinBoards_row_tie rfl ⟨rfl, rfl⟩ (by kernel_rfl) rfl
    (fun f fn hf hfn => by
      obtain rfl : f = 9 := Option.some.inj (named_FnExactJoinBoards.symm.trans hf) |>.symm
      obtain rfl : fn = Tryd.f9 := (Option.some.inj (Tryd.func9.symm.trans hfn)).symm
      exact ⟨by kernel_rfl, fun j t ht => by
        have hm : t ∈ Tryd.f9.params.toList := by
          have := Array.mem_of_getElem? ht
          simpa using this
        have h2 := List.all_eq_true.1 noStand_FnExactJoinBoards t hm
        have h3 : Tryd.prog.wantsStandIn t = false := by simpa using h2
        exact h3⟩)
    (by kernel_rfl)
end Go.Proofs.YtlmoopejihmhbaaDoor
