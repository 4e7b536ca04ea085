/- The law FnExactCountTurnTogether says true for all numbers: CountTurnTogether answers as its model does. No condition. -/
import Derived.Test.YtddlddnjchhniaaDoorRows
import Derived.Test.YtddlddnjchhniaaDoorCards
import Derived.Test.YtddlddnjchhniaaDoorTie
import Derived.Test.YtddlddnjchhniaaDoorZs5
import Derived.Test.YtddlddnjchhniaaDoorLwCountTurnTogether
import Derived.SevenTiedAt
namespace Go.Proofs.YtddlddnjchhniaaDoor
open Go.ChangeShapes Go.WideShapes Go.ChangeAt Go.RowKit Go.Am

theorem own_FnExactCountTurnTogether : ownKnob Tryd.prog.godebug = none := by kernel_rfl
theorem laid_FnExactCountTurnTogether : laidOutB Tryd.prog = true := by kernel_rfl
theorem closed_FnExactCountTurnTogether : joinedFacts Tryd.checked.prog 3 Tryd.f3 Rows.fnExactCountTurnTogetherSpec Rows.fnExactCountTurnTogetherRow = true := by
  unfold joinedFacts
  repeat' (with_reducible refine and_mk ?_ ?_)
  all_goals (first | with_reducible exact factMayEnter | (rw [factLifts]; as_aux_lemma => kernel_rfl) | (rw [factMake]; as_aux_lemma => kernel_rfl) | (as_aux_lemma => kernel_rfl))

set_option maxRecDepth 100000 in
theorem lifted_FnExactCountTurnTogether (os : Os) (started : os.Started) (H : Type) (enc : TypeId × Value → H) :
    ReturnsInHanded {} Tryd.checked os 3 .any (fun w args => (Rows.fnExactCountTurnTogetherSpec.pre enc Tryd.prog Tryd.f3 [] false w args ∧ laidMetH Tryd.prog Rows.fnExactCountTurnTogetherRow.laid w) ∧ sizedMet enc Tryd.prog Tryd.f3 (OpenSpec.ofChange Rows.fnExactCountTurnTogetherSpec) false w args) (Rows.fnExactCountTurnTogetherSpec.post enc Tryd.prog Tryd.f3 false true false false) := by
  refine returnsInHanded_of_change_and (C := Tryd.checked) (X := fun w _ => laidMetH Tryd.prog Rows.fnExactCountTurnTogetherRow.laid w) (fun _ _ _ hh h => h.of_heap hh) own_FnExactCountTurnTogether started (by kernel_rfl) Tryd.func3
    (ChangeSpec.witness_shaped (enc := enc) (C := Tryd.checked) (os := os) (X := fun w _ => laidMetH Tryd.prog Rows.fnExactCountTurnTogetherRow.laid w) false (World.laidAll Tryd.prog os Rows.fnExactCountTurnTogetherRow.laid) #[.int .i64 0, .int .i64 0] 8 (World.laidAll_os _ _ _)
      (door_shaped os _) (by kernel_rfl) (by kernel_rfl) (by kernel_rfl) (door_met os _)) ?_
  intro W base args ds gs before hval0 hW _ _ _ _
  have hval : ∀ (j : Nat) t v, Tryd.f3.params[j]? = some t → args[j]? = some v → Value.okWide Tryd.prog W .any base t v := hval0
  have hW' := hW
  obtain ⟨p, q, hA0, hV, hpq, hz, hn⟩ := hW
  have hA : DataW.TrodAll enc Tryd.prog W 0 (fun _ => true) true Tryd.f3.params.toList args.toList ds p := hA0
  rw [Tryd.params3] at hA hval
  obtain ⟨v0, v1, d0, d1, p0, p1, rfl, rfl, hps, h0, h1⟩ := trodAll_two hA
  obtain ⟨rfl, rfl⟩ := trodVars_none hV
  obtain ⟨x0, hx0, hl0, hb0⟩ := arg_int Tryd.underlying3 (hval 0 3 v0 rfl rfl) h0
  obtain ⟨x1, hx1, hl1, hb1⟩ := arg_int Tryd.underlying3 (hval 1 3 v1 rfl rfl) h1
  refine (law_calls (lawCountTurnTogether x0 x1) (by simp only [SimL, and_true]; exact ⟨hx0, hx1⟩) rfl).mono fun e W' ⟨he, hm⟩ => ?_
  subst he
  exact ⟨_, rfl, law_post laid_FnExactCountTurnTogether hW' rfl rfl (bt := 4) rfl Tryd.underlying4 (by rw [Tryd.params3]; decide +kernel) hm⟩

theorem row_FnExactCountTurnTogether : Rows.FnExactCountTurnTogetherSaid :=
  OpenClaim.holds_of_wide 3 Tryd.f3 rfl rfl rfl rfl rfl rfl rfl ⟨rfl, rfl, rfl, rfl, rfl⟩ rfl rfl rfl rfl rfl (by kernel_rfl) Tryd.func3 closed_FnExactCountTurnTogether
    (of_decide_eq_true (by kernel_rfl)) (by unfold Func.isWrapper; first | (rw [if_pos (by decide +kernel)]; kernel_rfl) | (rw [if_neg (by decide +kernel)]; exact ⟨rfl, rfl⟩))
    (fun os started H enc _ => lifted_FnExactCountTurnTogether os started H enc)

theorem named_FnExactCountTurnTogether : Tryd.prog.funcNamed Rows.fnExactCountTurnTogetherRow.func = some 3 := by kernel_rfl
theorem noStand_FnExactCountTurnTogether : (Tryd.f3.params.toList.all fun t => !Tryd.prog.wantsStandIn t) = true := by kernel_rfl
theorem fnExactCountTurnTogether_holds : Rows.FnExactCountTurnTogetherCardSaid :=
  Claim7.holds_tied_plain_at .later [] [.data, .pinned] true (true, "7eb5d9e29694e748daca0510b128932f7cccf99d2912883c2c45e9281a8255f6") true
    row_FnExactCountTurnTogether (fun _ h => by cases h) (by kernel_rfl) (fun _ h => by cases h) fnExactCountTurnTogether_row_tie rfl ⟨rfl, rfl⟩ (by kernel_rfl) rfl
    (fun f fn hf hfn => by
      obtain rfl : f = 3 := Option.some.inj (named_FnExactCountTurnTogether.symm.trans hf) |>.symm
      obtain rfl : fn = Tryd.f3 := (Option.some.inj (Tryd.func3.symm.trans hfn)).symm
      exact ⟨by kernel_rfl, fun j t ht => by
        have hm : t ∈ Tryd.f3.params.toList := by
          have := Array.mem_of_getElem? ht
          simpa using this
        have h2 := List.all_eq_true.1 noStand_FnExactCountTurnTogether t hm
        have h3 : Tryd.prog.wantsStandIn t = false := by simpa using h2
        exact h3⟩)
    (by kernel_rfl)
end Go.Proofs.YtddlddnjchhniaaDoor
