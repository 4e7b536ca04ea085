/- The law FnBoardsCounted says true for all bytes. No condition. -/
import Derived.Test.YtngfogpbljconaaGreatDoorRows
import Derived.Test.YtngfogpbljconaaGreatDoorCards
import Derived.Test.YtngfogpbljconaaGreatDoorTie
import Derived.Test.YtngfogpbljconaaGreatDoorZs7
import Derived.Test.YtngfogpbljconaaGreatDoorLwBoardsCounted
import Derived.SevenTiedAt
set_option linter.unusedSectionVars false
namespace Go.Proofs.YtngfogpbljconaaGreatDoor
open Go.ChangeShapes Go.WideShapes Go.ChangeAt Go.RowKit Go.Am

theorem own_FnBoardsCounted : ownKnob Tryz.prog.godebug = none := by kernel_rfl

theorem laid_FnBoardsCounted : laidOutB Tryz.prog = true := by kernel_rfl

theorem closed_FnBoardsCounted : joinedFacts Tryz.checked.prog 3 Tryz.f3 Rows.fnBoardsCountedSpec Rows.fnBoardsCountedRow = true := by
  haveI : CodeBlk := ⟨[]⟩
  unfold joinedFacts
  repeat' (with_reducible refine and_mk ?_ ?_)
  all_goals (first | with_reducible exact factMayEnter | (rw [factLifts]; as_aux_lemma => kernel_rfl) | (rw [factMake]; as_aux_lemma => kernel_rfl) | (as_aux_lemma => kernel_rfl))

set_option maxRecDepth 100000 in
theorem lifted_FnBoardsCounted (os : Os) (started : os.Started) (H : Type) (enc : TypeId × Value → H) :
    ReturnsInHanded {} Tryz.checked os 3 .any (fun w args => (Rows.fnBoardsCountedSpec.pre enc Tryz.prog Tryz.f3 [] false w args ∧ laidMetH Tryz.prog Rows.fnBoardsCountedRow.laid w) ∧ sizedMet enc Tryz.prog Tryz.f3 (OpenSpec.ofChange Rows.fnBoardsCountedSpec) false w args) (Rows.fnBoardsCountedSpec.post enc Tryz.prog Tryz.f3 false true false false) := by
  refine returnsInHanded_of_change_and (C := Tryz.checked) (X := fun w _ => laidMetH Tryz.prog Rows.fnBoardsCountedRow.laid w) (fun _ _ _ hh h => h.of_heap hh) own_FnBoardsCounted started (by kernel_rfl) Tryz.func3
    (ChangeSpec.witness_shaped (enc := enc) (C := Tryz.checked) (os := os) (X := fun w _ => laidMetH Tryz.prog Rows.fnBoardsCountedRow.laid w) false (World.laidAll Tryz.prog os Rows.fnBoardsCountedRow.laid) #[.slice none 0 0, .slice none 0 0] 8 (World.laidAll_os _ _ _)
      (door_shaped os _) (by kernel_rfl) (by kernel_rfl) (by kernel_rfl) (door_met os _)) ?_
  intro W base args ds gs before hval0 hW _ _ _ _
  have hval : ∀ (j : Nat) t v, Tryz.f3.params[j]? = some t → args[j]? = some v → Value.okWide Tryz.prog W .any base t v := hval0
  have hW' := hW
  obtain ⟨p, q, hA0, hV, hpq, hz, hn⟩ := hW
  have hA : DataW.TrodAll enc Tryz.prog W 0 (fun _ => true) true Tryz.f3.params.toList args.toList ds p := hA0
  rw [Tryz.params3] at hA hval
  obtain ⟨v0, v1, d0, d1, p0, p1, rfl, rfl, hps, h0, h1⟩ := trodAll_two hA
  obtain ⟨rfl, rfl⟩ := trodVars_none hV
  obtain ⟨x0, hx0, hl0⟩ := arg_bytes Tryz.underlying22 Tryz.underlying5 (by kernel_rfl) (hval 0 22 v0 rfl rfl) h0
  obtain ⟨x1, hx1, hl1⟩ := arg_bytes Tryz.underlying22 Tryz.underlying5 (by kernel_rfl) (hval 1 22 v1 rfl rfl) h1
  obtain ⟨I, hg, hb0, hb1⟩ := bytes_inst hx0 hx1
  letI : CodeBlk := I
  refine (law_calls (lawBoardsCounted hb0 hb1 (Nat.le_trans hl0 (by decide)) (Nat.le_trans hl1 (by decide))) (by simp only [SimL, SimV, and_true]) rfl hg).mono fun e W' ⟨he, hm⟩ => ?_
  subst he
  exact ⟨_, rfl, law_post laid_FnBoardsCounted hW' rfl rfl (bt := 4) rfl Tryz.underlying4 (by rw [Tryz.params3]; decide +kernel) hm⟩

theorem row_FnBoardsCounted : Rows.FnBoardsCountedSaid :=
  OpenClaim.holds_of_wide 3 Tryz.f3 rfl rfl rfl rfl rfl rfl rfl ⟨rfl, rfl, rfl, rfl, rfl⟩ rfl rfl rfl rfl rfl (by kernel_rfl) Tryz.func3 closed_FnBoardsCounted
    (of_decide_eq_true (by kernel_rfl)) (by unfold Func.isWrapper; first | (rw [if_pos (by decide +kernel)]; kernel_rfl) | (rw [if_neg (by decide +kernel)]; exact ⟨rfl, rfl⟩))
    (fun os started H enc _ => lifted_FnBoardsCounted os started H enc)

theorem named_FnBoardsCounted : Tryz.prog.funcNamed Rows.fnBoardsCountedRow.func = some 3 := by kernel_rfl

theorem noStand_FnBoardsCounted : (Tryz.f3.params.toList.all fun t => !Tryz.prog.wantsStandIn t) = true := by kernel_rfl

theorem fnBoardsCounted_holds : Rows.FnBoardsCountedCardSaid :=
  Claim7.holds_tied_plain_at .later [] [.data, .pinned] true (true, "066ac8e02cf92fac6553cee063a93ae9c973627c4cc1e7d633b73fd84d03b83d") true
    row_FnBoardsCounted (fun _ h => by cases h) (by kernel_rfl) (fun _ h => by cases h) fnBoardsCounted_row_tie rfl ⟨rfl, rfl⟩ (by kernel_rfl) rfl
    (fun f fn hf hfn => by
      obtain rfl : f = 3 := Option.some.inj (named_FnBoardsCounted.symm.trans hf) |>.symm
      obtain rfl : fn = Tryz.f3 := (Option.some.inj (Tryz.func3.symm.trans hfn)).symm
      exact ⟨by kernel_rfl, fun j t ht => by
        have hm : t ∈ Tryz.f3.params.toList := by
          have := Array.mem_of_getElem? ht
          simpa using this
        have h2 := List.all_eq_true.1 noStand_FnBoardsCounted t hm
        have h3 : Tryz.prog.wantsStandIn t = false := by simpa using h2
        exact h3⟩)
    (by kernel_rfl)
end Go.Proofs.YtngfogpbljconaaGreatDoor
