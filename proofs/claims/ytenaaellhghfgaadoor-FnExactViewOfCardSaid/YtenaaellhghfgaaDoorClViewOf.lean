/- The law FnExactViewOf says true for every plan, text and number: ViewOf answers as its model does, and leaves the plan alone. No condition but that the listed tables of the library read as the program laid them. -/
import Derived.Test.YtenaaellhghfgaaDoorRows
import Derived.Test.YtenaaellhghfgaaDoorCards
import Derived.Test.YtenaaellhghfgaaDoorTie
import Derived.Test.YtenaaellhghfgaaDoorAmN
import Derived.Test.YtenaaellhghfgaaDoorAmHa
import Derived.Test.YtenaaellhghfgaaDoorFcA
import Derived.Test.YtenaaellhghfgaaDoorFcB
import Derived.Test.YtenaaellhghfgaaDoorFcC
import Derived.Test.YtenaaellhghfgaaDoorFd
import Derived.Test.YtenaaellhghfgaaDoorLwViewOf
import Derived.SevenTiedAt
namespace Go.Proofs.YtenaaellhghfgaaDoor
open Go.ChangeShapes Go.WideShapes Go.ChangeAt Go.RowKit Go.Am

theorem own_FnExactViewOf : ownKnob Tryd.prog.godebug = none := by kernel_rfl
theorem laid_FnExactViewOf : laidOutB Tryd.prog = true := by kernel_rfl
theorem closed_FnExactViewOf : joinedFacts Tryd.checked.prog 4 Tryd.f4 Rows.fnExactViewOfSpec Rows.fnExactViewOfRow = true := by
  unfold joinedFacts
  repeat' (with_reducible refine and_mk ?_ ?_)
  all_goals (first | with_reducible exact factMayEnter | (rw [factLifts]; as_aux_lemma => kernel_rfl) | (rw [factMake]; as_aux_lemma => kernel_rfl) | (as_aux_lemma => kernel_rfl))

set_option maxRecDepth 100000 in
theorem lifted_FnExactViewOf (os : Os) (started : os.Started) (H : Type) (enc : TypeId × Value → H) :
    ReturnsInHanded {} Tryd.checked os 4 .any (fun w args => (Rows.fnExactViewOfSpec.pre enc Tryd.prog Tryd.f4 [] false w args ∧ laidMetH Tryd.prog Rows.fnExactViewOfRow.laid w) ∧ sizedMet enc Tryd.prog Tryd.f4 (OpenSpec.ofChange Rows.fnExactViewOfSpec) false w args) (Rows.fnExactViewOfSpec.post enc Tryd.prog Tryd.f4 false true false false) := by
  refine returnsInHanded_of_change_and (C := Tryd.checked) (X := fun w _ => laidMetH Tryd.prog Rows.fnExactViewOfRow.laid w) (fun _ _ _ hh h => h.of_heap hh) own_FnExactViewOf started (by kernel_rfl) Tryd.func4
    (ChangeSpec.witness_shaped (enc := enc) (C := Tryd.checked) (os := os) (X := fun w _ => laidMetH Tryd.prog Rows.fnExactViewOfRow.laid w) false (World.laidAll Tryd.prog os Rows.fnExactViewOfRow.laid) #[.agg #[.int .i64 0, .slice none 0 0], .string ⟨#[]⟩, .int .i64 0] 8 (World.laidAll_os _ _ _)
      (door_shaped os _) (by kernel_rfl) (by kernel_rfl) (by kernel_rfl) (door_met os _)) ?_
  intro W base args ds gs before hval0 hW _ _ _ _
  have hval : ∀ (j : Nat) t v, Tryd.f4.params[j]? = some t → args[j]? = some v → Value.okWide Tryd.prog W .any base t v := hval0
  have hW' := hW
  obtain ⟨p, q, hA0, hV, hpq, hz, hn⟩ := hW
  have hA : DataW.TrodAll enc Tryd.prog W 0 (fun _ => true) true Tryd.f4.params.toList args.toList ds p := hA0
  rw [Tryd.params4] at hA hval
  obtain ⟨v0, v1, v2, d0, d1, d2, p0, p1, p2, rfl, rfl, hps, h0, h1, h2⟩ := trodAll_three hA
  obtain ⟨rfl, rfl⟩ := trodVars_none hV
  obtain ⟨x0, hx0, hl0, hb0⟩ := arg_pln Tryd.underlying24 Tryd.underlying3 Tryd.underlying22 Tryd.underlying9 (by kernel_rfl) (by kernel_rfl) ⟨rfl, by kernel_rfl, rfl, by kernel_rfl⟩ (hval 0 24 v0 rfl rfl) h0
  obtain ⟨x1, hx1, hl1⟩ := arg_string Tryd.underlying9 (hval 1 9 v1 rfl rfl) h1
  obtain ⟨x2, hx2, hl2, hb2⟩ := arg_int Tryd.underlying3 (hval 2 3 v2 rfl rfl) h2
  refine (law_calls (lawViewOf x0.1 x0.2 x1 x2 hl0 hb0) (by simp only [SimL, and_true]; exact ⟨hx0, hx1, hx2⟩) rfl).mono fun e W' ⟨he, hm⟩ => ?_
  subst he
  exact ⟨_, rfl, law_post laid_FnExactViewOf hW' rfl rfl (bt := 4) rfl Tryd.underlying4 (by rw [Tryd.params4]; decide +kernel) hm⟩

theorem row_FnExactViewOf : Rows.FnExactViewOfSaid :=
  OpenClaim.holds_of_wide 4 Tryd.f4 rfl rfl rfl rfl rfl rfl rfl ⟨rfl, rfl, rfl, rfl, rfl⟩ rfl rfl rfl rfl rfl (by kernel_rfl) Tryd.func4 closed_FnExactViewOf
    (of_decide_eq_true (by kernel_rfl)) (by unfold Func.isWrapper; first | (rw [if_pos (by decide +kernel)]; kernel_rfl) | (rw [if_neg (by decide +kernel)]; exact ⟨rfl, rfl⟩))
    (fun os started H enc _ => lifted_FnExactViewOf os started H enc)

theorem named_FnExactViewOf : Tryd.prog.funcNamed Rows.fnExactViewOfRow.func = some 4 := by kernel_rfl
theorem noStand_FnExactViewOf : (Tryd.f4.params.toList.all fun t => !Tryd.prog.wantsStandIn t) = true := by kernel_rfl
theorem fnExactViewOf_holds : Rows.FnExactViewOfCardSaid :=
  Claim7.holds_tied_plain_at .later [] [.data, .data, .data] true (true, "a8dda62ec99669661eb048c57f22ac2de7644afe460e50bd9271f88a6ffb7780") false
    row_FnExactViewOf (fun _ h => by cases h) (by kernel_rfl) (fun _ h => by cases h) fnExactViewOf_row_tie rfl ⟨rfl, rfl⟩ (by kernel_rfl) rfl
    (fun f fn hf hfn => by
      obtain rfl : f = 4 := Option.some.inj (named_FnExactViewOf.symm.trans hf) |>.symm
      obtain rfl : fn = Tryd.f4 := (Option.some.inj (Tryd.func4.symm.trans hfn)).symm
      exact ⟨by kernel_rfl, fun j t ht => by
        have hm : t ∈ Tryd.f4.params.toList := by
          have := Array.mem_of_getElem? ht
          simpa using this
        have h2 := List.all_eq_true.1 noStand_FnExactViewOf t hm
        have h3 : Tryd.prog.wantsStandIn t = false := by simpa using h2
        exact h3⟩)
    (by kernel_rfl)
end Go.Proofs.YtenaaellhghfgaaDoor
