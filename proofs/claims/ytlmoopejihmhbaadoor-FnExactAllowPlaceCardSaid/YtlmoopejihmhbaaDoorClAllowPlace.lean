/- The law FnExactAllowPlace says true for every text and all numbers: AllowPlace answers as its model does. No condition but what its card ties. -/
import Derived.Test.YtlmoopejihmhbaaDoorRows
import Derived.Test.YtlmoopejihmhbaaDoorCards
import Derived.Test.YtlmoopejihmhbaaDoorTie
import Derived.Test.YtlmoopejihmhbaaDoorAmN
import Derived.Test.YtlmoopejihmhbaaDoorFcA
import Derived.Test.YtlmoopejihmhbaaDoorFcB
import Derived.Test.YtlmoopejihmhbaaDoorFcC
import Derived.Test.YtlmoopejihmhbaaDoorFd
import Derived.Test.YtlmoopejihmhbaaDoorLwAllowPlace
import Derived.SevenTiedAt
namespace Go.Proofs.YtlmoopejihmhbaaDoor
open Go.ChangeShapes Go.WideShapes Go.ChangeAt Go.RowKit Go.Am

theorem own_FnExactAllowPlace : ownKnob Tryd.prog.godebug = none := by kernel_rfl
theorem laid_FnExactAllowPlace : laidOutB Tryd.prog = true := by kernel_rfl
theorem closed_FnExactAllowPlace : joinedFacts Tryd.checked.prog 8 Tryd.f8 Rows.fnExactAllowPlaceSpec Rows.fnExactAllowPlaceRow = true := by
  unfold joinedFacts
  repeat' (with_reducible refine and_mk ?_ ?_)
  all_goals (first | with_reducible exact factMayEnter | (rw [factLifts]; as_aux_lemma => kernel_rfl) | (rw [factMake]; as_aux_lemma => kernel_rfl) | (as_aux_lemma => kernel_rfl))

set_option maxRecDepth 100000 in
theorem lifted_FnExactAllowPlace (os : Os) (started : os.Started) (H : Type) (enc : TypeId × Value → H) :
    ReturnsInHanded {} Tryd.checked os 8 .any (fun w args => (Rows.fnExactAllowPlaceSpec.pre enc Tryd.prog Tryd.f8 [] false w args ∧ laidMetH Tryd.prog Rows.fnExactAllowPlaceRow.laid w) ∧ sizedMet enc Tryd.prog Tryd.f8 (OpenSpec.ofChange Rows.fnExactAllowPlaceSpec) false w args) (Rows.fnExactAllowPlaceSpec.post enc Tryd.prog Tryd.f8 false true false false) := by
  refine returnsInHanded_of_change_and (C := Tryd.checked) (X := fun w _ => laidMetH Tryd.prog Rows.fnExactAllowPlaceRow.laid w) (fun _ _ _ hh h => h.of_heap hh) own_FnExactAllowPlace started (by kernel_rfl) Tryd.func8
    (ChangeSpec.witness_shaped (enc := enc) (C := Tryd.checked) (os := os) (X := fun w _ => laidMetH Tryd.prog Rows.fnExactAllowPlaceRow.laid w) false (World.laidAll Tryd.prog os Rows.fnExactAllowPlaceRow.laid) #[.string ⟨#[]⟩, .int .i64 0, .int .i64 0] 8 (World.laidAll_os _ _ _)
      (door_shaped os _) (by kernel_rfl) (by kernel_rfl) (by kernel_rfl) (door_met os _)) ?_
  intro W base args ds gs before hval0 hW _ _ _ _
  have hval : ∀ (j : Nat) t v, Tryd.f8.params[j]? = some t → args[j]? = some v → Value.okWide Tryd.prog W .any base t v := hval0
  have hW' := hW
  obtain ⟨p, q, hA0, hV, hpq, hz, hn⟩ := hW
  have hA : DataW.TrodAll enc Tryd.prog W 0 (fun _ => true) true Tryd.f8.params.toList args.toList ds p := hA0
  rw [Tryd.params8] at hA hval
  obtain ⟨v0, v1, v2, d0, d1, d2, p0, p1, p2, rfl, rfl, hps, h0, h1, h2⟩ := trodAll_three hA
  obtain ⟨rfl, rfl⟩ := trodVars_none hV
  obtain ⟨x0, hx0, hl0⟩ := arg_string Tryd.underlying9 (hval 0 9 v0 rfl rfl) h0
  obtain ⟨x1, hx1, hl1, hb1⟩ := arg_int Tryd.underlying3 (hval 1 3 v1 rfl rfl) h1
  obtain ⟨x2, hx2, hl2, hb2⟩ := arg_int Tryd.underlying3 (hval 2 3 v2 rfl rfl) h2
  refine (law_calls (lawAllowPlace x0 x1 x2 ⟨hl1, hb1⟩ ⟨hl2, hb2⟩) (by simp only [SimL, and_true]; exact ⟨hx0, hx1, hx2⟩) rfl).mono fun e W' ⟨he, hm⟩ => ?_
  subst he
  exact ⟨_, rfl, law_post laid_FnExactAllowPlace hW' rfl rfl (bt := 4) rfl Tryd.underlying4 (by rw [Tryd.params8]; decide +kernel) hm⟩

theorem row_FnExactAllowPlace : Rows.FnExactAllowPlaceSaid :=
  OpenClaim.holds_of_wide 8 Tryd.f8 rfl rfl rfl rfl rfl rfl rfl ⟨rfl, rfl, rfl, rfl, rfl⟩ rfl rfl rfl rfl rfl (by kernel_rfl) Tryd.func8 closed_FnExactAllowPlace
    (of_decide_eq_true (by kernel_rfl)) (by unfold Func.isWrapper; first | (rw [if_pos (by decide +kernel)]; kernel_rfl) | (rw [if_neg (by decide +kernel)]; exact ⟨rfl, rfl⟩))
    (fun os started H enc _ => lifted_FnExactAllowPlace os started H enc)

theorem named_FnExactAllowPlace : Tryd.prog.funcNamed Rows.fnExactAllowPlaceRow.func = some 8 := by kernel_rfl
theorem noStand_FnExactAllowPlace : (Tryd.f8.params.toList.all fun t => !Tryd.prog.wantsStandIn t) = true := by kernel_rfl
theorem fnExactAllowPlace_holds : Rows.FnExactAllowPlaceCardSaid :=
  Claim7.holds_tied_plain_at .later [] [.data, .pinned] true (true, "5cf660a5b1a82739375371e65a2f9c0bda544ce561aa6753e41a5459e97b5285") false
    row_FnExactAllowPlace (fun _ h => by cases h) (by kernel_rfl) (fun _ h => by cases h) fnExactAllowPlace_row_tie rfl ⟨rfl, rfl⟩ (by kernel_rfl) rfl
    (fun f fn hf hfn => by
      obtain rfl : f = 8 := Option.some.inj (named_FnExactAllowPlace.symm.trans hf) |>.symm
      obtain rfl : fn = Tryd.f8 := (Option.some.inj (Tryd.func8.symm.trans hfn)).symm
      exact ⟨by kernel_rfl, fun j t ht => by
        have hm : t ∈ Tryd.f8.params.toList := by
          have := Array.mem_of_getElem? ht
          simpa using this
        have h2 := List.all_eq_true.1 noStand_FnExactAllowPlace t hm
        have h3 : Tryd.prog.wantsStandIn t = false := by simpa using h2
        exact h3⟩)
    (by kernel_rfl)
end Go.Proofs.YtlmoopejihmhbaaDoor
