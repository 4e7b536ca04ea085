/- The law FnBoardsCountedOfAll says true for all texts and every list. No condition. -/
import Derived.Test.YtngfogpbljconaaDoorRows
import Derived.Test.YtngfogpbljconaaDoorCards
import Derived.Test.YtngfogpbljconaaDoorTie
import Derived.Test.YtngfogpbljconaaDoorZs6
import Derived.Test.YtngfogpbljconaaDoorLwBoardsCountedOfAll
import Derived.SevenTiedAt
set_option linter.unusedSectionVars false
namespace Go.Proofs.YtngfogpbljconaaDoor
open Go.ChangeShapes Go.WideShapes Go.ChangeAt Go.RowKit Go.Am

theorem own_FnBoardsCountedOfAll : ownKnob Tryd.prog.godebug = none := by kernel_rfl

theorem laid_FnBoardsCountedOfAll : laidOutB Tryd.prog = true := by kernel_rfl

theorem closed_FnBoardsCountedOfAll : joinedFacts Tryd.checked.prog 3 Tryd.f3 Rows.fnBoardsCountedOfAllSpec Rows.fnBoardsCountedOfAllRow = true := by
  haveI : CodeBlk := ⟨[]⟩
  unfold joinedFacts
  repeat' (with_reducible refine and_mk ?_ ?_)
  all_goals (first | with_reducible exact factMayEnter | (rw [factLifts]; as_aux_lemma => kernel_rfl) | (rw [factMake]; as_aux_lemma => kernel_rfl) | (as_aux_lemma => kernel_rfl))

set_option maxRecDepth 100000 in
theorem lifted_FnBoardsCountedOfAll (os : Os) (started : os.Started) (H : Type) (enc : TypeId × Value → H) :
    ReturnsInHanded {} Tryd.checked os 3 .any (fun w args => (Rows.fnBoardsCountedOfAllSpec.pre enc Tryd.prog Tryd.f3 [] false w args ∧ laidMetH Tryd.prog Rows.fnBoardsCountedOfAllRow.laid w) ∧ sizedMet enc Tryd.prog Tryd.f3 (OpenSpec.ofChange Rows.fnBoardsCountedOfAllSpec) false w args) (Rows.fnBoardsCountedOfAllSpec.post enc Tryd.prog Tryd.f3 false true false false) := by
  refine returnsInHanded_of_change_and (C := Tryd.checked) (X := fun w _ => laidMetH Tryd.prog Rows.fnBoardsCountedOfAllRow.laid w) (fun _ _ _ hh h => h.of_heap hh) own_FnBoardsCountedOfAll started (by kernel_rfl) Tryd.func3
    (ChangeSpec.witness_shaped (enc := enc) (C := Tryd.checked) (os := os) (X := fun w _ => laidMetH Tryd.prog Rows.fnBoardsCountedOfAllRow.laid w) false (World.laidAll Tryd.prog os Rows.fnBoardsCountedOfAllRow.laid) #[.string ⟨#[]⟩, .slice none 0 0, .string ⟨#[]⟩] 8 (World.laidAll_os _ _ _)
      (door_shaped os _) (by kernel_rfl) (by kernel_rfl) (by kernel_rfl) (door_met os _)) ?_
  letI : CodeBlk := ⟨[]⟩
  intro W base args ds gs before hval0 hW _ _ _ _
  have hval : ∀ (j : Nat) t v, Tryd.f3.params[j]? = some t → args[j]? = some v → Value.okWide Tryd.prog W .any base t v := hval0
  have hW' := hW
  obtain ⟨p, q, hA0, hV, hpq, hz, hn⟩ := hW
  have hA : DataW.TrodAll enc Tryd.prog W 0 (fun _ => true) true Tryd.f3.params.toList args.toList ds p := hA0
  rw [Tryd.params3] at hA hval
  obtain ⟨v0, v1, v2, d0, d1, d2, p0, p1, p2, rfl, rfl, hps, h0, h1, h2⟩ := trodAll_three hA
  obtain ⟨rfl, rfl⟩ := trodVars_none hV
  obtain ⟨x0, hx0, hl0⟩ := arg_string Tryd.underlying9 (hval 0 9 v0 rfl rfl) h0
  obtain ⟨x1, hx1, hl1, hb1⟩ := arg_ints Tryd.underlying22 Tryd.underlying3 (by kernel_rfl) (hval 1 22 v1 rfl rfl) h1
  obtain ⟨x2, hx2, hl2⟩ := arg_string Tryd.underlying9 (hval 2 9 v2 rfl rfl) h2
  refine (law_calls (lawBoardsCountedOfAll x0 x1 x2) (by simp only [SimL, and_true]; exact ⟨hx0, hx1, hx2⟩) rfl).mono fun e W' ⟨he, hm⟩ => ?_
  subst he
  exact ⟨_, rfl, law_post laid_FnBoardsCountedOfAll hW' rfl rfl (bt := 4) rfl Tryd.underlying4 (by rw [Tryd.params3]; decide +kernel) hm⟩

theorem row_FnBoardsCountedOfAll : Rows.FnBoardsCountedOfAllSaid :=
  OpenClaim.holds_of_wide 3 Tryd.f3 rfl rfl rfl rfl rfl rfl rfl ⟨rfl, rfl, rfl, rfl, rfl⟩ rfl rfl rfl rfl rfl (by kernel_rfl) Tryd.func3 closed_FnBoardsCountedOfAll
    (of_decide_eq_true (by kernel_rfl)) (by unfold Func.isWrapper; first | (rw [if_pos (by decide +kernel)]; kernel_rfl) | (rw [if_neg (by decide +kernel)]; exact ⟨rfl, rfl⟩))
    (fun os started H enc _ => lifted_FnBoardsCountedOfAll os started H enc)

theorem named_FnBoardsCountedOfAll : Tryd.prog.funcNamed Rows.fnBoardsCountedOfAllRow.func = some 3 := by kernel_rfl

theorem noStand_FnBoardsCountedOfAll : (Tryd.f3.params.toList.all fun t => !Tryd.prog.wantsStandIn t) = true := by kernel_rfl

theorem fnBoardsCountedOfAll_holds : Rows.FnBoardsCountedOfAllCardSaid :=
  Claim7.holds_tied_plain_at .later [] [.data, .pinned] true (true, "2e60ed1c236e2f05267ddfe67415659c4e0fabccc2c55fb6952304cb7e5b99d0") true
    row_FnBoardsCountedOfAll (fun _ h => by cases h) (by kernel_rfl) (fun _ h => by cases h) fnBoardsCountedOfAll_row_tie rfl ⟨rfl, rfl⟩ (by kernel_rfl) rfl
    (fun f fn hf hfn => by
      obtain rfl : f = 3 := Option.some.inj (named_FnBoardsCountedOfAll.symm.trans hf) |>.symm
      obtain rfl : fn = Tryd.f3 := (Option.some.inj (Tryd.func3.symm.trans hfn)).symm
      exact ⟨by kernel_rfl, fun j t ht => by
        have hm : t ∈ Tryd.f3.params.toList := by
          have := Array.mem_of_getElem? ht
          simpa using this
        have h2 := List.all_eq_true.1 noStand_FnBoardsCountedOfAll t hm
        have h3 : Tryd.prog.wantsStandIn t = false := by simpa using h2
        exact h3⟩)
    (by kernel_rfl)
end Go.Proofs.YtngfogpbljconaaDoor
