/- The law FnExactPuzzleText says true for every puzzle: PuzzleText answers as its model does, and leaves the puzzle alone. No condition but that the listed tables of the library read as the program laid them. -/
import Derived.Test.YtjgcmbihbeokeaaDoorRows
import Derived.Test.YtjgcmbihbeokeaaDoorCards
import Derived.Test.YtjgcmbihbeokeaaDoorTie
import Derived.Test.YtjgcmbihbeokeaaDoorZq4
import Derived.Test.YtjgcmbihbeokeaaDoorLwPuzzleText
import Derived.Test.YtjgcmbihbeokeaaDoorZq5
import Derived.SevenTiedAt
namespace Go.Proofs.YtjgcmbihbeokeaaDoor
open Go.ChangeShapes Go.WideShapes Go.ChangeAt Go.RowKit Go.Am

theorem own_FnExactPuzzleText : ownKnob Tryd.prog.godebug = none := by kernel_rfl

theorem laid_FnExactPuzzleText : laidOutB Tryd.prog = true := by kernel_rfl

theorem closed_FnExactPuzzleText : joinedFacts Tryd.checked.prog 3 Tryd.f3 Rows.fnExactPuzzleTextSpec Rows.fnExactPuzzleTextRow = true := by
  unfold joinedFacts
  repeat' (with_reducible refine and_mk ?_ ?_)
  all_goals (first | with_reducible exact factMayEnter | (rw [factLifts]; as_aux_lemma => kernel_rfl) | (rw [factMake]; as_aux_lemma => kernel_rfl) | (as_aux_lemma => kernel_rfl))

set_option maxRecDepth 100000 in
theorem lifted_FnExactPuzzleText (os : Os) (started : os.Started) (H : Type) (enc : TypeId × Value → H) :
    ReturnsInHanded {} Tryd.checked os 3 .any (fun w args => (Rows.fnExactPuzzleTextSpec.pre enc Tryd.prog Tryd.f3 [] false w args ∧ laidMetH Tryd.prog Rows.fnExactPuzzleTextRow.laid w) ∧ sizedMet enc Tryd.prog Tryd.f3 (OpenSpec.ofChange Rows.fnExactPuzzleTextSpec) false w args) (Rows.fnExactPuzzleTextSpec.post enc Tryd.prog Tryd.f3 false true false false) := by
  refine returnsInHanded_of_change_and (C := Tryd.checked) (X := fun w _ => laidMetH Tryd.prog Rows.fnExactPuzzleTextRow.laid w) (fun _ _ _ hh h => h.of_heap hh) own_FnExactPuzzleText started (by kernel_rfl) Tryd.func3
    (ChangeSpec.witness_shaped (enc := enc) (C := Tryd.checked) (os := os) (X := fun w _ => laidMetH Tryd.prog Rows.fnExactPuzzleTextRow.laid w) false (World.laidAll Tryd.prog os Rows.fnExactPuzzleTextRow.laid) #[.agg #[.int .i64 0, .slice none 0 0]] 8 (World.laidAll_os _ _ _)
      (door_shaped os _) (by kernel_rfl) (by kernel_rfl) (by kernel_rfl) (door_met os _)) ?_
  intro W base args ds gs before hval0 hW _ _ _ _
  have hval : ∀ (j : Nat) t v, Tryd.f3.params[j]? = some t → args[j]? = some v → Value.okWide Tryd.prog W .any base t v := hval0
  have hW' := hW
  obtain ⟨p, q, hA0, hV, hpq, hz, hn⟩ := hW
  have hA : DataW.TrodAll enc Tryd.prog W 0 (fun _ => true) true Tryd.f3.params.toList args.toList ds p := hA0
  rw [Tryd.params3] at hA hval
  obtain ⟨v0, d0, rfl, rfl, h0⟩ := trodAll_one hA
  obtain ⟨rfl, rfl⟩ := trodVars_none hV
  obtain ⟨x0, hx0, hl0, hb0⟩ := arg_pzl Tryd.underlying24 Tryd.underlying3 Tryd.underlying22 ⟨Tryd.underlying59, Tryd.underlying3, Tryd.underlying3, Tryd.underlying3, rfl, rfl, rfl, by kernel_rfl, by kernel_rfl, by kernel_rfl, by kernel_rfl⟩ (by kernel_rfl) ⟨rfl, by kernel_rfl, rfl, by kernel_rfl⟩ (hval 0 24 v0 rfl rfl) h0
  refine (law_calls (lawPuzzleText x0.1 x0.2 hl0) (by simp only [SimL, and_true]; exact hx0) rfl).mono fun e W' ⟨he, hm⟩ => ?_
  subst he
  exact ⟨_, rfl, law_post laid_FnExactPuzzleText hW' rfl rfl (bt := 4) rfl Tryd.underlying4 (by rw [Tryd.params3]; decide +kernel) hm⟩

theorem row_FnExactPuzzleText : Rows.FnExactPuzzleTextSaid :=
  OpenClaim.holds_of_wide 3 Tryd.f3 rfl rfl rfl rfl rfl rfl rfl ⟨rfl, rfl, rfl, rfl, rfl⟩ rfl rfl rfl rfl rfl (by kernel_rfl) Tryd.func3 closed_FnExactPuzzleText
    (of_decide_eq_true (by kernel_rfl)) (by unfold Func.isWrapper; first | (rw [if_pos (by decide +kernel)]; kernel_rfl) | (rw [if_neg (by decide +kernel)]; exact ⟨rfl, rfl⟩))
    (fun os started H enc _ => lifted_FnExactPuzzleText os started H enc)

theorem named_FnExactPuzzleText : Tryd.prog.funcNamed Rows.fnExactPuzzleTextRow.func = some 3 := by kernel_rfl

theorem noStand_FnExactPuzzleText : (Tryd.f3.params.toList.all fun t => !Tryd.prog.wantsStandIn t) = true := by kernel_rfl

theorem fnExactPuzzleText_holds : Rows.FnExactPuzzleTextCardSaid :=
  Claim7.holds_tied_plain_at .later [] [.data, .data, .data] true (true, "15b22ac2f7de46ebb5824f3a4ef5f08e601665bdba49f225871c65506604a69f") true
    row_FnExactPuzzleText (fun _ h => by cases h) (by kernel_rfl) (fun _ h => by cases h) fnExactPuzzleText_row_tie rfl ⟨rfl, rfl⟩ (by kernel_rfl) rfl
    (fun f fn hf hfn => by
      obtain rfl : f = 3 := Option.some.inj (named_FnExactPuzzleText.symm.trans hf) |>.symm
      obtain rfl : fn = Tryd.f3 := (Option.some.inj (Tryd.func3.symm.trans hfn)).symm
      exact ⟨by kernel_rfl, fun j t ht => by
        have hm : t ∈ Tryd.f3.params.toList := by
          have := Array.mem_of_getElem? ht
          simpa using this
        have h2 := List.all_eq_true.1 noStand_FnExactPuzzleText t hm
        have h3 : Tryd.prog.wantsStandIn t = false := by simpa using h2
        exact h3⟩)
    (by kernel_rfl)
end Go.Proofs.YtjgcmbihbeokeaaDoor
