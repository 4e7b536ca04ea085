/- The law FnExactCountMutual says true for every list: CountMutual answers as its model does, and leaves the list alone. No condition beside the tied table. -/
import Derived.Test.YtgekggljdcnmeaaDoorRows
import Derived.Test.YtgekggljdcnmeaaDoorCards
import Derived.Test.YtgekggljdcnmeaaDoorTie
import Derived.Test.YtgekggljdcnmeaaDoorAmN
import Derived.Test.YtgekggljdcnmeaaDoorFcA
import Derived.Test.YtgekggljdcnmeaaDoorFcB
import Derived.Test.YtgekggljdcnmeaaDoorFcC
import Derived.Test.YtgekggljdcnmeaaDoorFd
import Derived.Test.YtgekggljdcnmeaaDoorLwCountMutual
import Derived.Test.YtgekggljdcnmeaaDoorGw
import Derived.SevenTiedAt
namespace Go.Proofs.YtgekggljdcnmeaaDoor
open Go.ChangeShapes Go.WideShapes Go.ChangeAt Go.RowKit Go.Am

theorem own_FnExactCountMutual : ownKnob Tryd.prog.godebug = none := by kernel_rfl
theorem laid_FnExactCountMutual : laidOutB Tryd.prog = true := by kernel_rfl
theorem closed_FnExactCountMutual : joinedFacts Tryd.checked.prog 3 Tryd.f3 Rows.fnExactCountMutualSpec Rows.fnExactCountMutualRow = true := by
  unfold joinedFacts
  repeat' (with_reducible refine and_mk ?_ ?_)
  all_goals (first | with_reducible exact factMayEnter | (rw [factLifts]; as_aux_lemma => kernel_rfl) | (rw [factMake]; as_aux_lemma => kernel_rfl) | (as_aux_lemma => kernel_rfl))

set_option maxRecDepth 100000 in
theorem lifted_FnExactCountMutual (os : Os) (started : os.Started) (H : Type) (enc : TypeId × Value → H) :
    ReturnsInHanded {} Tryd.checked os 3 .any (fun w args => (Rows.fnExactCountMutualSpec.pre enc Tryd.prog Tryd.f3 [] false w args ∧ laidMetH Tryd.prog Rows.fnExactCountMutualRow.laid w) ∧ sizedMet enc Tryd.prog Tryd.f3 (OpenSpec.ofChange Rows.fnExactCountMutualSpec) false w args) (Rows.fnExactCountMutualSpec.post enc Tryd.prog Tryd.f3 false true false false) := by
  refine returnsInHanded_of_change_and (C := Tryd.checked) (X := fun w _ => laidMetH Tryd.prog Rows.fnExactCountMutualRow.laid w) (fun _ _ _ hh h => h.of_heap hh) own_FnExactCountMutual started (by kernel_rfl) Tryd.func3
    (ChangeSpec.witness_shaped (enc := enc) (C := Tryd.checked) (os := os) (X := fun w _ => laidMetH Tryd.prog Rows.fnExactCountMutualRow.laid w) false (World.laidAll Tryd.prog os Rows.fnExactCountMutualRow.laid) #[.slice none 0 0] 8 (World.laidAll_os _ _ _)
      (door_shaped os _) (by kernel_rfl) (by kernel_rfl) (by kernel_rfl) (door_met os _)) ?_
  intro W base args ds gs before hval0 hW g1 g2 g3 g4
  have hval : ∀ (j : Nat) t v, Tryd.f3.params[j]? = some t → args[j]? = some v → Value.okWide Tryd.prog W .any base t v := hval0
  have hW' := hW
  obtain ⟨p, q, hA0, hV, hpq, hz, hn⟩ := hW
  have hA : DataW.TrodAll enc Tryd.prog W 0 (fun _ => true) true Tryd.f3.params.toList args.toList ds p := hA0
  rw [Tryd.params3] at hA hval
  obtain ⟨v0, d0, rfl, rfl, h0⟩ := trodAll_one hA
  obtain ⟨rfl, rfl⟩ := trodVars_none hV
  obtain ⟨x0, hx0, hl0, hb0⟩ := arg_ints Tryd.underlying22 Tryd.underlying3 (by kernel_rfl) (hval 0 22 v0 rfl rfl) h0
  refine (law_calls (lawCountMutual x0) (by simp only [SimL, and_true]; exact hx0) rfl (goodW_of (by assumption))).mono fun e W' ⟨he, hm⟩ => ?_
  subst he
  exact ⟨_, rfl, law_post laid_FnExactCountMutual hW' rfl rfl (bt := 4) rfl Tryd.underlying4 (by rw [Tryd.params3]; decide +kernel) hm⟩

theorem row_FnExactCountMutual : Rows.FnExactCountMutualSaid :=
  OpenClaim.holds_of_wide 3 Tryd.f3 rfl rfl rfl rfl rfl rfl rfl ⟨rfl, rfl, rfl, rfl, rfl⟩ rfl rfl rfl rfl rfl (by kernel_rfl) Tryd.func3 closed_FnExactCountMutual
    (of_decide_eq_true (by kernel_rfl)) (by unfold Func.isWrapper; first | (rw [if_pos (by decide +kernel)]; kernel_rfl) | (rw [if_neg (by decide +kernel)]; exact ⟨rfl, rfl⟩))
    (fun os started H enc _ => lifted_FnExactCountMutual os started H enc)

theorem named_FnExactCountMutual : Tryd.prog.funcNamed Rows.fnExactCountMutualRow.func = some 3 := by kernel_rfl
theorem noStand_FnExactCountMutual : (Tryd.f3.params.toList.all fun t => !Tryd.prog.wantsStandIn t) = true := by kernel_rfl
theorem fnExactCountMutual_holds : Rows.FnExactCountMutualCardSaid :=
  Claim7.holds_tied_plain_at .later [] [.data] true (true, "fa9941c102c95301c708dfc53bd2ef8ff17c48dea28e33eef8f451fc9461e16a") false
    row_FnExactCountMutual (fun _ h => by cases h) (by kernel_rfl) (fun _ h => by cases h) fnExactCountMutual_row_tie rfl ⟨rfl, rfl⟩ (by kernel_rfl) rfl
    (fun f fn hf hfn => by
      obtain rfl : f = 3 := Option.some.inj (named_FnExactCountMutual.symm.trans hf) |>.symm
      obtain rfl : fn = Tryd.f3 := (Option.some.inj (Tryd.func3.symm.trans hfn)).symm
      exact ⟨by kernel_rfl, fun j t ht => by
        have hm : t ∈ Tryd.f3.params.toList := by
          have := Array.mem_of_getElem? ht
          simpa using this
        have h2 := List.all_eq_true.1 noStand_FnExactCountMutual t hm
        have h3 : Tryd.prog.wantsStandIn t = false := by simpa using h2
        exact h3⟩)
    (by kernel_rfl)
end Go.Proofs.YtgekggljdcnmeaaDoor
