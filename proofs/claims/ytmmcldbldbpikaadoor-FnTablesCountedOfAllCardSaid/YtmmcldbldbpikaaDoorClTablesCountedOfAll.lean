/- The law FnTablesCountedOfAll says true for all numbers and every list: tables and rows by couples together add up to all, chances are those of counts, and tables with all apart are told in order; no condition but what its card ties. -/
import Derived.Test.YtmmcldbldbpikaaDoorRows
import Derived.Carry
import Derived.Test.YtmmcldbldbpikaaDoorCards
import Derived.Test.YtmmcldbldbpikaaDoorTie
import Derived.Test.YtmmcldbldbpikaaDoorZs5
import Derived.Test.YtmmcldbldbpikaaDoorLwTablesCountedOfAll
import Derived.SevenTiedAt
namespace Go.Proofs.YtmmcldbldbpikaaDoor
open Go.ChangeShapes Go.WideShapes Go.ChangeAt Go.RowKit Go.Am

theorem own_FnTablesCountedOfAll : ownKnob Tryd.prog.godebug = none := by kernel_rfl

theorem laid_FnTablesCountedOfAll : laidOutB Tryd.prog = true := by kernel_rfl

theorem closed_FnTablesCountedOfAll : joinedFacts Tryd.checked.prog 3 Tryd.f3 Rows.fnTablesCountedOfAllSpec Rows.fnTablesCountedOfAllRow = true := by
  unfold joinedFacts
  repeat' (with_reducible refine and_mk ?_ ?_)
  all_goals (first | with_reducible exact factMayEnter | (rw [factLifts]; as_aux_lemma => kernel_rfl) | (rw [factMake]; as_aux_lemma => kernel_rfl) | (as_aux_lemma => kernel_rfl))

set_option maxRecDepth 100000 in
theorem lifted_FnTablesCountedOfAll (os : Os) (started : os.Started) (H : Type) (enc : TypeId × Value → H) :
    ReturnsInHanded {} Tryd.checked os 3 .any (fun w args => (Rows.fnTablesCountedOfAllSpec.pre enc Tryd.prog Tryd.f3 [] false w args ∧ laidMetH Tryd.prog Rows.fnTablesCountedOfAllRow.laid w) ∧ sizedMet enc Tryd.prog Tryd.f3 (OpenSpec.ofChange Rows.fnTablesCountedOfAllSpec) false w args) (Rows.fnTablesCountedOfAllSpec.post enc Tryd.prog Tryd.f3 false true false false) := by
  refine returnsInHanded_of_change_and (C := Tryd.checked) (X := fun w _ => laidMetH Tryd.prog Rows.fnTablesCountedOfAllRow.laid w) (fun _ _ _ hh h => h.of_heap hh) own_FnTablesCountedOfAll started (by kernel_rfl) Tryd.func3
    (ChangeSpec.witness_shaped (enc := enc) (C := Tryd.checked) (os := os) (X := fun w _ => laidMetH Tryd.prog Rows.fnTablesCountedOfAllRow.laid w) false (World.laidAll Tryd.prog os Rows.fnTablesCountedOfAllRow.laid) #[.int .i64 0, .int .i64 0, .int .i64 0, .slice none 0 0] 8 (World.laidAll_os _ _ _)
      (door_shaped os _) (by kernel_rfl) (by kernel_rfl) (by kernel_rfl) (door_met os _)) ?_
  intro W base args ds gs before hval0 hW _ _ _ _
  have hval : ∀ (j : Nat) t v, Tryd.f3.params[j]? = some t → args[j]? = some v → Value.okWide Tryd.prog W .any base t v := hval0
  have hW' := hW
  obtain ⟨p, q, hA0, hV, hpq, hz, hn⟩ := hW
  have hA : DataW.TrodAll enc Tryd.prog W 0 (fun _ => true) true Tryd.f3.params.toList args.toList ds p := hA0
  rw [Tryd.params3] at hA hval
  obtain ⟨v0, v1, v2, v3, d0, d1, d2, d3, p0, p1, p2, p3, rfl, rfl, hps, h0, h1, h2, h3⟩ := trodAll_four hA
  obtain ⟨rfl, rfl⟩ := trodVars_none hV
  obtain ⟨x0, hx0, hl0, hb0⟩ := arg_int Tryd.underlying3 (hval 0 3 v0 rfl rfl) h0
  obtain ⟨x1, hx1, hl1, hb1⟩ := arg_int Tryd.underlying3 (hval 1 3 v1 rfl rfl) h1
  obtain ⟨x2, hx2, hl2, hb2⟩ := arg_int Tryd.underlying3 (hval 2 3 v2 rfl rfl) h2
  obtain ⟨x3, hx3, hl3, hb3⟩ := arg_ints Tryd.underlying22 Tryd.underlying3 (by kernel_rfl) (hval 3 22 v3 rfl rfl) h3
  refine (law_calls (lawTablesCountedOfAll x0 x1 x2 x3) (by simp only [SimL, and_true]; exact ⟨hx0, hx1, hx2, hx3⟩) rfl).mono fun e W' ⟨he, hm⟩ => ?_
  subst he
  exact ⟨_, rfl, law_post laid_FnTablesCountedOfAll hW' rfl rfl (bt := 4) rfl Tryd.underlying4 (by rw [Tryd.params3]; decide +kernel) hm⟩

theorem row_FnTablesCountedOfAll : Rows.FnTablesCountedOfAllSaid :=
  OpenClaim.holds_of_wide 3 Tryd.f3 rfl rfl rfl rfl rfl rfl rfl ⟨rfl, rfl, rfl, rfl, rfl⟩ rfl rfl rfl rfl rfl (by kernel_rfl) Tryd.func3 closed_FnTablesCountedOfAll
    (of_decide_eq_true (by kernel_rfl)) (by unfold Func.isWrapper; first | (rw [if_pos (by decide +kernel)]; kernel_rfl) | (rw [if_neg (by decide +kernel)]; exact ⟨rfl, rfl⟩))
    (fun os started H enc _ => lifted_FnTablesCountedOfAll os started H enc)

theorem named_FnTablesCountedOfAll : Tryd.prog.funcNamed Rows.fnTablesCountedOfAllRow.func = some 3 := by kernel_rfl

theorem noStand_FnTablesCountedOfAll : (Tryd.f3.params.toList.all fun t => !Tryd.prog.wantsStandIn t) = true := by kernel_rfl

theorem fnTablesCountedOfAll_holds : Rows.FnTablesCountedOfAllCardSaid :=
  Claim7.holds_tied_plain_at .later [] [.data, .pinned] true (true, "5df450cc3e92bad42c237902308e2a1edb1af38cd2ce3342858d1c1b0006d0cb") true
    row_FnTablesCountedOfAll (fun _ h => by cases h) (by kernel_rfl) (fun _ h => by cases h) fnTablesCountedOfAll_row_tie rfl ⟨rfl, rfl⟩ (by kernel_rfl) rfl
    (fun f fn hf hfn => by
      obtain rfl : f = 3 := Option.some.inj (named_FnTablesCountedOfAll.symm.trans hf) |>.symm
      obtain rfl : fn = Tryd.f3 := (Option.some.inj (Tryd.func3.symm.trans hfn)).symm
      exact ⟨by kernel_rfl, fun j t ht => by
        have hm : t ∈ Tryd.f3.params.toList := by
          have := Array.mem_of_getElem? ht
          simpa using this
        have h2 := List.all_eq_true.1 noStand_FnTablesCountedOfAll t hm
        have h3 : Tryd.prog.wantsStandIn t = false := by simpa using h2
        exact h3⟩)
    (by kernel_rfl)
end Go.Proofs.YtmmcldbldbpikaaDoor
